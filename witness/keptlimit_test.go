package witness_test

import (
	"testing"

	"witness/api"
	"witness/witness"
)

// The grid is a branch of branches of leaves, one for every key of one byte:
// more nodes than a keeper may keep.

func gridLeaf(b int) api.Item {
	return leafOf("", "the value of "+ownDigits(string([]byte{byte(b)})))
}

func gridRow(high int) api.Item {
	row := at{}
	for low, d := range []byte("0123456789abcdef") {
		row[d] = refTo(gridLeaf(high<<4 | low))
	}
	return branchOf("", row)
}

func gridTop() api.Item {
	rows := at{}
	for high, d := range []byte("0123456789abcdef") {
		rows[d] = refTo(gridRow(high))
	}
	return branchOf("", rows)
}

func gridWay(b int) []api.Item { return []api.Item{gridTop(), gridRow(b >> 4), gridLeaf(b)} }

func gridKey(b int) string { return string([]byte{byte(b)}) }

// gridKeeper keeps so many nodes of the grid, which is its root at 1; of the
// leaves those of the first keys, as many as it tells.
func gridKeeper(t *testing.T, kept int) (k *witness.Keeper, leaves int) {
	t.Helper()
	k = trusting(t, gridTop())
	for ; k.Kept() < kept; leaves++ {
		if e := k.Offer(1, gridKey(leaves), proofOf(gridWay(leaves)...)); e != api.OK {
			t.Fatalf("the keeper is not filled: %d, with %d kept", e, k.Kept())
		}
	}
	wantKept(t, "filled", k, kept)
	return k, leaves
}

func TestMaxKeptNodes(t *testing.T) {
	k, leaves := gridKeeper(t, api.MaxKept)
	for b := range 256 {
		if b < leaves {
			wantOffer(t, "none added", k, 1, gridKey(b), api.OK, gridWay(b)...)
			wantGet(t, "full", k, 1, gridKey(b), gridLeaf(b).Items[1].Bytes)
		} else {
			wantOffer(t, "some added", k, 1, gridKey(b), api.ErrFull, gridWay(b)...)
			noGet(t, "full", k, 1, gridKey(b), api.ErrUnknown)
		}
		wantKept(t, "full", k, api.MaxKept)
	}
	wantOffer(t, "none added, no value", k, 1, "\x00\x00", api.OK, gridWay(0)...)
	wantOffer(t, "none added, the top", k, 1, "", api.OK, gridTop())
	unchanged(t, "one leaf", k, api.ErrFull, func() api.Errno { return k.Offer(1, gridKey(leaves), proofOf(gridWay(leaves)...)) })
	unchanged(t, "a row and a leaf", k, api.ErrFull, func() api.Errno { return k.Offer(1, "\xff", proofOf(gridWay(255)...)) })
	wantTrust(t, "the same root", k, 2, bySum(gridTop()).Bytes, api.OK)
	wantOffer(t, "none added, at another height", k, 2, "\x00", api.OK, gridWay(0)...)
	wantOffer(t, "one added, at another height", k, 2, "\xff", api.ErrFull, gridWay(255)...)
}

func TestRoomForSome(t *testing.T) {
	for room := range 4 {
		for add := range 4 {
			k, leaves := gridKeeper(t, api.MaxKept-room)
			wantTrust(t, "beta", k, 2, bySum(beta).Bytes, api.OK)
			key, way := gridKey(0), gridWay(0)
			height := 1
			switch add {
			case 1:
				key, way = gridKey(leaves), gridWay(leaves)
			case 2:
				key, way = "\xff", gridWay(255)
			case 3:
				height, key, way = 2, "a", []api.Item{beta, alphaFork, alphaA}
			}
			if add <= room {
				wantOffer(t, "room", k, height, key, api.OK, way...)
				wantKept(t, "room", k, api.MaxKept-room+add)
			} else {
				unchanged(t, "no room", k, api.ErrFull, func() api.Errno { return k.Offer(height, key, proofOf(way...)) })
				noGet(t, "no room", k, height, key, api.ErrUnknown)
			}
		}
	}
}

func TestWhatIsToldAheadOfFull(t *testing.T) {
	k, leaves := gridKeeper(t, api.MaxKept)
	way := proofOf(gridWay(leaves)...)
	key := gridKey(leaves)
	wantErr(t, "full alone", k.Offer(1, key, way), api.ErrFull)
	wantErr(t, "no head", k.Offer(2, key, way), api.ErrHead)
	wantErr(t, "a long key", k.Offer(1, letters(7), way), api.ErrKey)
	wantErr(t, "a big element", k.Offer(1, key, append(way[:3:3], letters(1001))), api.ErrBig)
	wantErr(t, "no proof", k.Offer(1, key, append(way[:3:3], way[0])), api.ErrProof)
	wantErr(t, "no proof", k.Offer(1, "\xff", way), api.ErrProof)
	wantKept(t, "refused", k, api.MaxKept)
}

func TestDropMakesRoom(t *testing.T) {
	k, leaves := gridKeeper(t, api.MaxKept)
	wantTrust(t, "a row", k, 2, bySum(gridRow(3)).Bytes, api.OK)
	wantTrust(t, "alpha", k, 3, bySum(alpha).Bytes, api.OK)
	wantOffer(t, "alpha", k, 3, "", api.ErrFull, alpha)
	wantDrop(t, "alpha", k, 3, api.OK)
	wantKept(t, "nothing of alpha", k, api.MaxKept)
	wantDrop(t, "the grid", k, 1, api.OK)
	wantKept(t, "a row and its leaves", k, 17)
	wantTrust(t, "the grid", k, 1, bySum(gridTop()).Bytes, api.OK)
	noGet(t, "the top is forgotten", k, 1, "\x30", api.ErrUnknown)
	wantOffer(t, "the grid again", k, 1, gridKey(leaves), api.OK, gridWay(leaves)...)
	wantKept(t, "three more", k, 20)
	wantGet(t, "the row's leaves", k, 1, "\x30", "the value of 30")
	noGet(t, "another row's", k, 1, "\x20", api.ErrUnknown)
}
