package witness_test

import (
	"slices"
	"testing"

	"witness/api"
	"witness/witness"
)

func head(height int, root string) api.Head { return api.Head{Height: height, Root: root} }

func TestOpenTrustsNothing(t *testing.T) {
	k := witness.Open()
	wantHeads(t, "new", k)
	wantKept(t, "new", k, 0)
	for _, height := range append([]int{0, 1, api.MaxHeight}, outside...) {
		noGet(t, "new", k, height, "", api.ErrHead)
		wantOffer(t, "new", k, height, "", api.ErrHead, small)
		wantDrop(t, "new", k, height, api.ErrHead)
	}
}

func TestHeightsThatAreTrusted(t *testing.T) {
	for _, height := range []int{0, 1, 2, 999999, api.MaxHeight} {
		k := witness.Open()
		wantTrust(t, "within", k, height, "12345678", api.OK)
		wantHeads(t, "within", k, head(height, "12345678"))
	}
	k := witness.Open()
	for _, height := range outside {
		wantTrust(t, "outside", k, height, "12345678", api.ErrHeight)
	}
	wantHeads(t, "outside", k)
}

func TestRootsThatAreTrusted(t *testing.T) {
	k := witness.Open()
	for n := range 30 {
		if n != 8 {
			wantTrust(t, "another length", k, 1, letters(n), api.ErrRoot)
		}
	}
	wantTrust(t, "a million bytes", k, 1, letters(1000000), api.ErrRoot)
	wantHeads(t, "refused", k)
	for i, root := range []string{"12345678", "\x00\x00\x00\x00\x00\x00\x00\x00", "\xff\xff\xff\xff\xff\xff\xff\xff", ownSum("\x80")} {
		wantTrust(t, "8 bytes", k, i, root, api.OK)
	}
}

func TestTheSameRootTwice(t *testing.T) {
	k := witness.Open()
	wantTrust(t, "first", k, 5, "12345678", api.OK)
	wantTrust(t, "again", k, 5, "12345678", api.OK)
	wantHeads(t, "at one height", k, head(5, "12345678"))
	wantTrust(t, "another", k, 5, "12345679", api.ErrTwice)
	wantTrust(t, "another", k, 5, "02345678", api.ErrTwice)
	wantHeads(t, "another refused", k, head(5, "12345678"))
	wantTrust(t, "higher", k, 6, "12345678", api.OK)
	wantTrust(t, "lower", k, 0, "12345678", api.OK)
	wantHeads(t, "at three heights", k, head(0, "12345678"), head(5, "12345678"), head(6, "12345678"))
	wantDrop(t, "the first", k, 5, api.OK)
	wantTrust(t, "another, the first gone", k, 5, "12345679", api.OK)
	wantTrust(t, "the first again", k, 5, "12345678", api.ErrTwice)
	wantHeads(t, "changed", k, head(0, "12345678"), head(5, "12345679"), head(6, "12345678"))
}

func TestHeadsRise(t *testing.T) {
	m := maker(7)
	heights := []int{0, 1, 2, 10, 99, 100, 1000, api.MaxHeight}
	for range 200 {
		order := slices.Clone(heights)
		for i := range order {
			j := m.below(i + 1)
			order[i], order[j] = order[j], order[i]
		}
		k := witness.Open()
		for i, height := range order {
			wantTrust(t, "in any order", k, height, "root no"+string([]byte{byte('0' + i)}), api.OK)
		}
		var want []api.Head
		for _, height := range heights {
			i := slices.Index(order, height)
			want = append(want, head(height, "root no"+string([]byte{byte('0' + i)})))
		}
		wantHeads(t, "in any order", k, want...)
	}
}

// full opens a keeper of MaxHeads heads, at the heights 10, 20 ..
func full(t *testing.T) *witness.Keeper {
	t.Helper()
	k := witness.Open()
	for i := range api.MaxHeads {
		wantTrust(t, "full", k, 10*(i+1), "12345678", api.OK)
	}
	return k
}

func TestMaxHeadsAndOneMore(t *testing.T) {
	k := full(t)
	for _, height := range []int{0, 9, 15, 81, api.MaxHeight} {
		unchanged(t, "one more", k, api.ErrFull, func() api.Errno { return k.Trust(height, "12345678") })
		unchanged(t, "one more, another", k, api.ErrFull, func() api.Errno { return k.Trust(height, "87654321") })
	}
	wantTrust(t, "one of them again", k, 30, "12345678", api.OK)
	if n := len(k.Heads()); n != api.MaxHeads {
		t.Errorf("there are %d heads", n)
	}
	wantDrop(t, "room", k, 30, api.OK)
	wantTrust(t, "room", k, 31, "87654321", api.OK)
	wantTrust(t, "no room", k, 30, "12345678", api.ErrFull)
}

func TestTrustTellsTheErrorNamedFirst(t *testing.T) {
	k := full(t)
	for _, c := range []struct {
		name   string
		height int
		root   string
		want   api.Errno
	}{
		{"a height and a root", -1, "", api.ErrHeight},
		{"a height and a root, above", api.MaxHeight + 1, "123456789", api.ErrHeight},
		{"a height, and no room", api.MaxHeight + 1, "12345678", api.ErrHeight},
		{"a root, and another there", 10, "1234567", api.ErrRoot},
		{"a root, and no room", 11, "1234567", api.ErrRoot},
		{"another there, and no room", 10, "12345677", api.ErrTwice},
		{"no room", 11, "12345677", api.ErrFull},
	} {
		unchanged(t, c.name, k, c.want, func() api.Errno { return k.Trust(c.height, c.root) })
	}
}

func TestHeadsMayBeWrittenInto(t *testing.T) {
	k := witness.Open()
	for i := range api.MaxHeads {
		heads := k.Heads()
		for j := range heads[:cap(heads)] {
			heads[:cap(heads)][j] = head(77, "scribble")
		}
		wantTrust(t, "scribbled", k, 2*i, "12345678", api.OK)
		if heads := k.Heads(); len(heads) != i+1 || slices.Contains(heads, head(77, "scribble")) {
			t.Errorf("Heads hangs on what came out: %v", heads)
		}
	}
	one, other := k.Heads(), k.Heads()
	want := slices.Clone(other)
	for j := range one[:cap(one)] {
		one[:cap(one)][j] = head(77, "scribble")
	}
	if !slices.Equal(other, want) {
		t.Errorf("two answers share room: %v", other)
	}
	wantTrust(t, "scribbled", k, 0, "12345678", api.OK)
	was := k.Heads()
	wantDrop(t, "behind Heads", k, 0, api.OK)
	wantTrust(t, "behind Heads", k, 1, "87654321", api.OK)
	if !slices.Equal(was, want) {
		t.Errorf("a later call wrote into what Heads gave: %v", was)
	}
}

func TestARootHandedInIsNotKept(t *testing.T) {
	root, b := bendable("12345678")
	k := witness.Open()
	wantTrust(t, "bent", k, 3, root, api.OK)
	b[0] = '?'
	wantHeads(t, "bent", k, head(3, "12345678"))
}

func TestKeepersAreNothingToOneAnother(t *testing.T) {
	one, other := trusting(t, fork), trusting(t, fork)
	wantOffer(t, "one", one, 1, "\x40", api.OK, fork, great)
	wantTrust(t, "one", one, 2, "12345678", api.OK)
	noGet(t, "the other", other, 1, "", api.ErrUnknown)
	wantKept(t, "the other", other, 0)
	wantHeads(t, "the other", other, head(1, bySum(fork).Bytes))
	wantOffer(t, "the other", other, 1, "", api.OK, fork)
	wantDrop(t, "one", one, 1, api.OK)
	wantGet(t, "the other", other, 1, "", "f")
	wantKept(t, "the other", other, 1)
	wantKept(t, "one", one, 0)
}
