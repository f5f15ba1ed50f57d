package witness_test

import (
	"maps"
	"slices"
	"testing"

	"witness/api"
	"witness/witness"
)

// ownKeeper keeps once more, from the document: roots by heights, elements by
// their sums.
type ownKeeper struct {
	roots map[int]string
	kept  map[string]string
}

func (k *ownKeeper) trust(height int, root string) api.Errno {
	had, trusted := k.roots[height]
	switch {
	case height < 0 || height > 1000000:
		return api.ErrHeight
	case len(root) != 8:
		return api.ErrRoot
	case trusted && had != root:
		return api.ErrTwice
	case !trusted && len(k.roots) == 8:
		return api.ErrFull
	}
	k.roots[height] = root
	return api.OK
}

func (k *ownKeeper) offer(height int, key string, proof []string) api.Errno {
	root, trusted := k.roots[height]
	if !trusted {
		return api.ErrHead
	}
	if _, _, e := ownVerify(root, key, proof); e != api.OK {
		return e
	}
	kept := maps.Clone(k.kept)
	for _, s := range slices.Backward(proof) {
		kept[ownSum(s)] = s
	}
	maps.Copy(kept, k.kept)
	if len(kept) > 200 {
		return api.ErrFull
	}
	k.kept = kept
	return api.OK
}

func (k *ownKeeper) get(height int, key string) (string, bool, api.Errno) {
	root, trusted := k.roots[height]
	if !trusted {
		return "", false, api.ErrHead
	}
	s, ok := k.kept[root]
	here, _ := witness.Decode(s)
	digits := ownDigits(key)
	for ok {
		to, rest, on := ownNext(here, digits)
		if !on {
			value := ownValue(here, digits)
			return value, value != "", api.OK
		}
		next := to
		if !to.List && to.Bytes != "" {
			s, ok = k.kept[to.Bytes]
			next, _ = witness.Decode(s)
			ok = ok && len(s) >= 8 && (isOwnBranch(here) || isOwnBranch(next))
		}
		here, digits = next, rest
	}
	return "", false, api.ErrUnknown
}

func (k *ownKeeper) drop(height int) api.Errno {
	if _, trusted := k.roots[height]; !trusted {
		return api.ErrHead
	}
	delete(k.roots, height)
	reached := map[string]string{}
	ahead := slices.Collect(maps.Values(k.roots))
	for len(ahead) > 0 {
		sum := ahead[0]
		ahead = ahead[1:]
		s, kept := k.kept[sum]
		if reached[sum] == "" && kept {
			reached[sum] = s
			ahead = append(ahead, ownSums(s)...)
		}
	}
	k.kept = reached
	return api.OK
}

func ownSums(s string) []string {
	x, _ := witness.Decode(s)
	var places []api.Item
	if isOwnExtension(x) {
		places = x.Items[1:]
	}
	if isOwnBranch(x) {
		places = x.Items[:16]
	}
	var sums []string
	for _, y := range places {
		if !y.List && len(y.Bytes) == 8 {
			sums = append(sums, y.Bytes)
		}
	}
	return sums
}

// offerOf is a proof, right or not, to be offered where its root is trusted.
type offerOf struct {
	root, key string
	proof     []string
}

// tableOffers makes offers of a few tables, each like the one before it but
// for a pair.
func (m *maker) tableOffers() []offerOf {
	var all []offerOf
	pairs := m.pairs(30)
	for range 4 {
		pairs = append(slices.Clone(pairs), m.pairs(1)...)
		root, _ := witness.Root(pairs)
		for range 20 {
			key := m.oneOf(m.key(), pairs[m.below(len(pairs))].Key)
			all = append(all, offerOf{root, key, ownProof(ownTable(pairs), key)})
		}
	}
	return all
}

func (m *maker) wayOffers() []offerOf {
	var all []offerOf
	for range 10 {
		proof, digits := m.way(m.below(5))
		digits = digits[:min(len(digits), 12)/2*2]
		all = append(all, offerOf{ownSum(proof[0]), unhex(digits), proof})
	}
	return all
}

func (m *maker) ringOffers() []offerOf {
	rings := []api.Item{ringOne, ringTwo, straight, endLeaf}
	over := extensionOf("6", circular)
	var all []offerOf
	for range 20 {
		way := []api.Item{rings[m.below(4)], rings[m.below(4)], rings[m.below(4)]}
		for n := range 4 {
			key := m.oneOf("", "\x11", "\x12", "\x21", "\x22")
			all = append(all, offerOf{"circular", key, proofOf(way[:n]...)})
		}
		all = append(all, offerOf{bySum(over).Bytes, m.oneOf("a", "b", "c"), proofOf(over, way[0], way[1])})
	}
	all = append(all, offerOf{"circular", "\x10", proofOf(straight, great)})
	return append(all, offerOf{bySum(over).Bytes, "a", proofOf(over, straight, great)})
}

func (m *maker) gridOffers() []offerOf {
	var all []offerOf
	top := gridTop()
	for b := range 256 {
		all = append(all, offerOf{bySum(top).Bytes, gridKey(b), proofOf(top, gridRow(b>>4), gridLeaf(b))})
	}
	row := gridRow(m.below(16))
	return append(all, offerOf{bySum(row).Bytes, "", proofOf(row)})
}

func (m *maker) height() int {
	if m.below(20) == 0 {
		return outside[m.below(len(outside))]
	}
	return []int{0, 1, 2, 3, 5, 8, 13, 999999, 1000000, 4}[m.below(10)]
}

// where tells a height at which the offer's root is trusted, mostly.
func (m *maker) where(o offerOf, k *ownKeeper) int {
	for _, height := range slices.Sorted(maps.Keys(k.roots)) {
		if k.roots[height] == o.root && m.below(10) > 0 {
			return height
		}
	}
	return m.height()
}

// both does one thing with both keepers, and tells both answers. Of so many
// things one is a Drop.
func (m *maker) both(o offerOf, many int, k *witness.Keeper, own *ownKeeper) (what string, got, want api.Errno) {
	switch m.below(many) {
	case 0:
		height := m.height()
		return "Drop", k.Drop(height), own.drop(height)
	case 1, 2, 3:
		height := m.height()
		return "Trust", k.Trust(height, o.root), own.trust(height, o.root)
	}
	height, proof := m.where(o, own), slices.Clone(o.proof)
	if len(proof) > 0 && m.below(10) == 0 {
		proof = m.spoil(proof)
	}
	return "Offer", k.Offer(height, o.key, proof), own.offer(height, o.key, proof)
}

// alike holds all that can be seen of both keepers by some keys against each
// other.
func alike(t *testing.T, k *witness.Keeper, own *ownKeeper, keys ...string) {
	t.Helper()
	var heads []api.Head
	for _, height := range slices.Sorted(maps.Keys(own.roots)) {
		heads = append(heads, head(height, own.roots[height]))
	}
	wantHeads(t, "alike", k, heads...)
	wantKept(t, "alike", k, len(own.kept))
	for height := range own.roots {
		for _, key := range keys {
			value, found, e := k.Get(height, key)
			ownValue, ownFound, ownErr := own.get(height, key)
			if value != ownValue || found != ownFound || e != ownErr {
				t.Errorf("alike: Get(%d, %q) = %q, %v, %d, want %q, %v, %d", height, key, value, found, e, ownValue, ownFound, ownErr)
			}
		}
	}
}

func TestManyKeepers(t *testing.T) {
	m := maker(8)
	told := map[string]map[api.Errno]int{"Trust": {}, "Drop": {}, "Offer": {}}
	for round := range 60 {
		offers, many := slices.Concat(m.tableOffers(), m.wayOffers(), m.ringOffers()), 12
		if round%3 == 0 {
			offers, many = append(offers[:10], m.gridOffers()...), 200
		}
		k, own := witness.Open(), &ownKeeper{map[int]string{}, map[string]string{}}
		for range 500 {
			o := offers[m.below(len(offers))]
			what, got, want := m.both(o, many, k, own)
			told[what][got]++
			if got != want {
				t.Fatalf("%s: %d, want %d", what, got, want)
			}
			alike(t, k, own, o.key, offers[m.below(len(offers))].key, m.key())
		}
	}
	for what, all := range map[string][]api.Errno{
		"Trust": {api.OK, api.ErrHeight, api.ErrTwice, api.ErrFull},
		"Drop":  {api.OK, api.ErrHead},
		"Offer": {api.OK, api.ErrHead, api.ErrProof, api.ErrFull},
	} {
		for _, e := range all {
			if told[what][e] < 20 {
				t.Errorf("%s told %d only %d times", what, e, told[what][e])
			}
		}
	}
}
