package witness_test

import (
	"testing"

	"witness/api"
	"witness/witness"
)

// Nodes that have the sum "circular" all of them: two branches that refer to
// it themselves, so that a way can go round; a branch that doesn't; a leaf.
var (
	circular = bytes("circular")
	ringOne  = branchOf(unhex("726f756e64203030303030303030303030303030303100010f0a02030f050d013a05070101021c0f"), at{'1': circular})
	ringTwo  = branchOf(unhex("616e6f7468657220726f756e642030303030303030300603000104fc051e040f0079000c04020f04"), at{'2': circular})
	straight = branchOf(unhex("706c61696e20303030303030303030303030303030300c0209001d021d0d010000071e07051f0d03"), at{'1': refTo(great), '2': small})
	endLeaf  = leafOf("", unhex("61206c656166203030303030303030303030303030300000000a3d0607031f0006000c0a0e000f0d"))
)

func valueOf(x api.Item) string { return x.Items[len(x.Items)-1].Bytes }

func TestTheNodesOfOneSum(t *testing.T) {
	for _, x := range []api.Item{ringOne, ringTwo, straight, endLeaf} {
		if !same(bySum(x), circular) {
			t.Fatalf("the sum of %x is %q", ownBytes(x), bySum(x).Bytes)
		}
	}
}

// ring opens a keeper that trusts the sum at 1.
func ring(t *testing.T) *witness.Keeper {
	t.Helper()
	return trusting(t, ringOne)
}

func TestOneElementManyTimes(t *testing.T) {
	k := ring(t)
	var way []api.Item
	for range 13 {
		way = append(way, ringOne)
	}
	wantOffer(t, "too few", k, 1, "\x11\x11\x11\x11\x11\x11", api.ErrProof, way[:12]...)
	wantOffer(t, "round and round", k, 1, "\x11\x11\x11\x11\x11\x11", api.OK, way...)
	wantKept(t, "round and round", k, 1)
	wantGet(t, "round and round", k, 1, "\x11\x11\x11\x11\x11\x11", valueOf(ringOne))
	wantGet(t, "twice round", k, 1, "\x11", valueOf(ringOne))
	wantGet(t, "out of it", k, 1, "\x11\x12", "")
	wantTrust(t, "alpha", k, 2, bySum(alpha).Bytes, api.OK)
	wantDrop(t, "alpha", k, 2, api.OK)
	wantKept(t, "the circle is reached", k, 1)
	wantDrop(t, "the circle", k, 1, api.OK)
	wantKept(t, "the circle reaches itself alone", k, 0)
}

func TestTwoElementsOfOneSumInOneProof(t *testing.T) {
	k := ring(t)
	wantVerify(t, "all three", "circular", "\x12", proofOf(ringOne, ringTwo, endLeaf), valueOf(endLeaf), true, api.OK)
	wantOffer(t, "all three", k, 1, "\x12", api.OK, ringOne, ringTwo, endLeaf)
	wantKept(t, "the first alone", k, 1)
	wantGet(t, "the first alone", k, 1, "", valueOf(ringOne))
	wantGet(t, "the first at the second's place", k, 1, "\x11", valueOf(ringOne))
	wantGet(t, "the way that was offered", k, 1, "\x12", "")

	k = ring(t)
	wantOffer(t, "the second first", k, 1, "\x21", api.OK, ringTwo, ringOne, straight)
	wantKept(t, "the second first", k, 1)
	wantGet(t, "the second first", k, 1, "\x22", valueOf(ringTwo))
}

func TestAnotherOfTheSumIsKept(t *testing.T) {
	k := ring(t)
	wantOffer(t, "the leaf", k, 1, "", api.OK, endLeaf)
	wantOffer(t, "the branch", k, 1, "", api.OK, straight)
	wantKept(t, "the leaf alone", k, 1)
	wantGet(t, "the leaf alone", k, 1, "", valueOf(endLeaf))
	wantOffer(t, "the branch and a leaf below", k, 1, "\x10", api.OK, straight, great)
	wantKept(t, "what is below, too", k, 2)
	wantGet(t, "the first is a leaf still", k, 1, "\x10", "")
	wantTrust(t, "alpha", k, 2, bySum(alpha).Bytes, api.OK)
	wantDrop(t, "alpha", k, 2, api.OK)
	wantKept(t, "what is below is not reached", k, 1)
	wantDrop(t, "the sum", k, 1, api.OK)
	wantTrust(t, "the sum again", k, 1, "circular", api.OK)
	wantOffer(t, "the branch first", k, 1, "", api.OK, straight)
	wantOffer(t, "the leaf", k, 1, "", api.OK, endLeaf)
	wantGet(t, "the branch alone", k, 1, "", valueOf(straight))
	wantGet(t, "the branch alone", k, 1, "\x20", "")
	noGet(t, "the branch alone", k, 1, "\x10", api.ErrUnknown)
}

func TestAnotherOfTheSumDoesNotFit(t *testing.T) {
	over := extensionOf("6", circular)
	k := trusting(t, ringOne, over)
	wantOffer(t, "the leaf", k, 1, "", api.OK, endLeaf)
	wantOffer(t, "an extension to a branch of its sum", k, 2, "a", api.OK, over, straight, great)
	wantKept(t, "but for the branch", k, 3)
	noGet(t, "an extension to the leaf", k, 2, "a", api.ErrUnknown)
	noGet(t, "an extension to the leaf", k, 2, "c", api.ErrUnknown)
	wantGet(t, "ends at the extension", k, 2, "q", "")
	wantDrop(t, "the leaf as a root", k, 1, api.OK)
	wantKept(t, "the extension reaches the leaf", k, 2)
	noGet(t, "an extension to the leaf", k, 2, "a", api.ErrUnknown)
}

func TestOneSumCountsOnce(t *testing.T) {
	k, _ := gridKeeper(t, api.MaxKept-1)
	wantTrust(t, "the sum", k, 2, "circular", api.OK)
	wantOffer(t, "one more", k, 2, "\x12", api.OK, ringOne, ringTwo, endLeaf)
	wantKept(t, "one more", k, api.MaxKept)
	wantOffer(t, "none more", k, 2, "", api.OK, straight)

	k, _ = gridKeeper(t, api.MaxKept)
	wantTrust(t, "the sum", k, 2, "circular", api.OK)
	unchanged(t, "no room", k, api.ErrFull, func() api.Errno { return k.Offer(2, "\x11", proofOf(ringOne, ringOne, ringTwo)) })
}

func TestTwoLeavesOfOneSum(t *testing.T) {
	branch := branchOf("", at{'1': bySum(leafOf("", likeSums[0])), '2': bySum(leafOf("", likeSums[1]))})
	top := extensionOf("6", refTo(branch))
	k := trusting(t, top)
	wantOffer(t, "the first", k, 1, "a", api.OK, top, branch, leafOf("", likeSums[0]))
	wantOffer(t, "the other", k, 1, "b", api.OK, top, branch, leafOf("", likeSums[1]))
	wantKept(t, "both", k, 3)
	wantGet(t, "the first", k, 1, "a", likeSums[0])
	wantGet(t, "the first in the other's place", k, 1, "b", likeSums[0])
}
