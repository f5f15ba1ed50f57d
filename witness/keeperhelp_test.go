package witness_test

import (
	"fmt"
	"math"
	"slices"
	"strings"
	"testing"

	"witness/api"
	"witness/witness"
)

// outside are heights at which no root can be trusted.
var outside = []int{-1, api.MaxHeight + 1, -api.MaxHeight, math.MinInt, math.MaxInt, 1 << 32}

func wantErr(t *testing.T, name string, got, want api.Errno) {
	t.Helper()
	if got != want {
		t.Errorf("%s: %d, want %d", name, got, want)
	}
}

func wantTrust(t *testing.T, name string, k *witness.Keeper, height int, root string, want api.Errno) {
	t.Helper()
	wantErr(t, fmt.Sprintf("%s: Trust(%d, %.12q)", name, height, root), k.Trust(height, root), want)
}

func wantOffer(t *testing.T, name string, k *witness.Keeper, height int, key string, want api.Errno, way ...api.Item) {
	t.Helper()
	wantErr(t, fmt.Sprintf("%s: Offer(%d, %q)", name, height, key), k.Offer(height, key, proofOf(way...)), want)
}

func wantDrop(t *testing.T, name string, k *witness.Keeper, height int, want api.Errno) {
	t.Helper()
	wantErr(t, fmt.Sprintf("%s: Drop(%d)", name, height), k.Drop(height), want)
}

// wantGet asks for a value, or for none if it is empty.
func wantGet(t *testing.T, name string, k *witness.Keeper, height int, key, want string) {
	t.Helper()
	if value, found, e := k.Get(height, key); value != want || found != (want != "") || e != api.OK {
		t.Errorf("%s: Get(%d, %q) = %q, %v, %d, want %q, OK", name, height, key, value, found, e, want)
	}
}

func noGet(t *testing.T, name string, k *witness.Keeper, height int, key string, want api.Errno) {
	t.Helper()
	if value, found, e := k.Get(height, key); value != "" || found || e != want {
		t.Errorf("%s: Get(%d, %.12q) = %q, %v, %d, want nothing, %d", name, height, key, value, found, e, want)
	}
}

func wantKept(t *testing.T, name string, k *witness.Keeper, want int) {
	t.Helper()
	if n := k.Kept(); n != want {
		t.Errorf("%s: Kept = %d, want %d", name, n, want)
	}
}

func wantHeads(t *testing.T, name string, k *witness.Keeper, want ...api.Head) {
	t.Helper()
	if heads := k.Heads(); !slices.Equal(heads, want) {
		t.Errorf("%s: Heads = %x, want %x", name, heads, want)
	}
}

// trusting opens a keeper that trusts the nodes' sums at the heights 1, 2 ..
func trusting(t *testing.T, nodes ...api.Item) *witness.Keeper {
	t.Helper()
	k := witness.Open()
	for i, x := range nodes {
		wantTrust(t, "trusting", k, i+1, bySum(x).Bytes, api.OK)
	}
	return k
}

// looks tells all that can be seen of a keeper by way of some keys.
func looks(k *witness.Keeper) string {
	var all strings.Builder
	fmt.Fprint(&all, k.Heads(), k.Kept())
	for _, h := range k.Heads() {
		for b := range 256 {
			for _, key := range []string{"", string([]byte{byte(b)}), string([]byte{byte(b), byte(b)}), "abc"} {
				value, found, e := k.Get(h.Height, key)
				fmt.Fprint(&all, " ", value, found, e)
			}
		}
	}
	return all.String()
}

// unchanged asks that a refused call changes nothing.
func unchanged(t *testing.T, name string, k *witness.Keeper, want api.Errno, call func() api.Errno) {
	t.Helper()
	before := looks(k)
	wantErr(t, name, call(), want)
	if looks(k) != before {
		t.Errorf("%s: the refused call changed something", name)
	}
}
