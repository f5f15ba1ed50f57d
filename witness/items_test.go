package witness_test

import (
	"runtime/debug"
	"slices"
	"strings"
	"testing"

	"witness/api"
	"witness/witness"
)

func TestItemsAndTheirBytes(t *testing.T) {
	for _, c := range []struct {
		name string
		x    api.Item
		s    string
	}{
		{"no bytes", bytes(""), "\x80"},
		{"the byte 00", bytes("\x00"), "\x00"},
		{"one byte below 80", bytes("\x7f"), "\x7f"},
		{"one byte at 80", bytes("\x80"), "\x81\x80"},
		{"the byte ff", bytes("\xff"), "\x81\xff"},
		{"two bytes below 80", bytes("ab"), "\x82ab"},
		{"55 bytes", bytes(letters(55)), "\xb7" + letters(55)},
		{"56 bytes", bytes(letters(56)), "\xb8\x38" + letters(56)},
		{"255 bytes", bytes(letters(255)), "\xb8\xff" + letters(255)},
		{"256 bytes", bytes(letters(256)), "\xb9\x01\x00" + letters(256)},
		{"997 bytes, MaxBytes in all", bytes(letters(997)), "\xb9\x03\xe5" + letters(997)},
		{"the empty list", list(), "\xc0"},
		{"a and an empty list", list(bytes("a"), list()), "\xc2a\xc0"},
		{"a list of no bytes", list(bytes("")), "\xc1\x80"},
		{"a list of 55 bytes", list(bytes(letters(54))), "\xf7\xb6" + letters(54)},
		{"a list of 56 bytes", list(bytes(letters(55))), "\xf8\x38\xb7" + letters(55)},
		{"a list of 55 items", list(slices.Repeat([]api.Item{bytes("a")}, 55)...), "\xf7" + letters(55)},
		{"a list of 56 items", list(slices.Repeat([]api.Item{bytes("a")}, 56)...), "\xf8\x38" + letters(56)},
		{"a list of 255 bytes", list(bytes(letters(253))), "\xf8\xff\xb8\xfd" + letters(253)},
		{"a list of 256 bytes", list(bytes(letters(254))), "\xf9\x01\x00\xb8\xfe" + letters(254)},
		{"a list of MaxBytes in all", list(bytes(letters(994))), "\xf9\x03\xe5\xb9\x03\xe2" + letters(994)},
		{"many items, MaxBytes in all", list(slices.Repeat([]api.Item{bytes("a")}, 997)...), "\xf9\x03\xe5" + letters(997)},
		{"lists beside lists", list(list(list(bytes("x")), list()), bytes("y")), "\xc5\xc3\xc1x\xc0y"},
		{"the depth MaxDepth, nothing within", nest(list(), 7), "\xc7\xc6\xc5\xc4\xc3\xc2\xc1\xc0"},
		{"the depth MaxDepth, bytes within", nest(bytes("\x80"), 8), "\xc9\xc8\xc7\xc6\xc5\xc4\xc3\xc2\x81\x80"},
		{"the depth MaxDepth, behind others", list(bytes("x"), list(), nest(list(), 6), bytes("y")), "\xcax\xc0\xc6\xc5\xc4\xc3\xc2\xc1\xc0y"},
	} {
		wantBytes(t, c.name, c.x, c.s)
		wantItem(t, c.name, c.s, c.x)
	}
}

func TestAnEmptyFieldMayBeNilOrNot(t *testing.T) {
	wantBytes(t, "bytes beside a list of nothing", api.Item{Bytes: "x", Items: []api.Item{}}, "x")
	wantBytes(t, "a list of nothing", api.Item{List: true, Items: []api.Item{}}, "\xc0")
	wantBytes(t, "a nil list", api.Item{List: true}, "\xc0")
}

var (
	strayBytes = api.Item{List: true, Bytes: "x"}
	strayItems = api.Item{Items: []api.Item{{}}}
)

func TestEncodeRefusesAFieldNotUsed(t *testing.T) {
	noBytes(t, "a list with bytes", strayBytes, api.ErrForm)
	noBytes(t, "a list with items and bytes", api.Item{List: true, Bytes: "x", Items: []api.Item{bytes("y")}}, api.ErrForm)
	noBytes(t, "no bytes, with items", strayItems, api.ErrForm)
	noBytes(t, "bytes with items", api.Item{Bytes: "x", Items: []api.Item{list()}}, api.ErrForm)
	for levels := range 20 {
		noBytes(t, "a list with bytes, within", nest(strayBytes, levels), api.ErrForm)
		noBytes(t, "bytes with items, within", nest(strayItems, levels), api.ErrForm)
		noBytes(t, "the last of several", nest(list(bytes("x"), list(bytes("y")), strayItems), levels), api.ErrForm)
		noBytes(t, "the first of several", nest(list(strayBytes, bytes("x"), list()), levels), api.ErrForm)
	}
}

func TestEncodeRefusesWhatIsBig(t *testing.T) {
	noBytes(t, "bytes of MaxBytes and 1 in all", bytes(letters(998)), api.ErrBig)
	noBytes(t, "MaxBytes bytes", bytes(letters(1000)), api.ErrBig)
	noBytes(t, "a million bytes", bytes(letters(1000000)), api.ErrBig)
	noBytes(t, "a list of MaxBytes and 1 in all", list(bytes(letters(995))), api.ErrBig)
	noBytes(t, "a list around MaxBytes", nest(bytes(letters(994)), 2), api.ErrBig)
	noBytes(t, "many items, MaxBytes and 1 in all", list(slices.Repeat([]api.Item{bytes("a")}, 998)...), api.ErrBig)
	noBytes(t, "a million items", list(slices.Repeat([]api.Item{list()}, 1000000)...), api.ErrBig)
	noBytes(t, "the depth 9, nothing within", nest(list(), 8), api.ErrBig)
	noBytes(t, "the depth 9, bytes within", nest(bytes("x"), 9), api.ErrBig)
	noBytes(t, "the depth 9, behind others", list(bytes("x"), nest(list(), 7)), api.ErrBig)
	noBytes(t, "the depth 9, ahead of others", list(nest(list(), 7), bytes("x")), api.ErrBig)
}

func TestEncodeTellsFormFirst(t *testing.T) {
	noBytes(t, "too many bytes ahead of it", list(bytes(letters(2000)), strayItems), api.ErrForm)
	noBytes(t, "too many bytes behind it", list(strayBytes, bytes(letters(2000))), api.ErrForm)
	noBytes(t, "too deep ahead of it", list(nest(list(), 8), strayBytes), api.ErrForm)
	noBytes(t, "too deep behind it", list(strayItems, nest(list(), 8)), api.ErrForm)
	noBytes(t, "the stray field too big", api.Item{List: true, Bytes: letters(2000)}, api.ErrForm)
	noBytes(t, "behind a thousand items", list(append(slices.Repeat([]api.Item{list()}, 1001), strayBytes)...), api.ErrForm)
}

// A stack that may not grow far shows whether a call goes down with its input.
func TestEncodeEndsHoweverDeep(t *testing.T) {
	defer debug.SetMaxStack(debug.SetMaxStack(8 << 20))
	noBytes(t, "a million lists", nest(list(), 1000000), api.ErrBig)
	noBytes(t, "a stray field in a million lists", nest(strayItems, 1000000), api.ErrForm)
	x := list()
	for range 300000 {
		x = list(bytes("a"), x, list())
	}
	noBytes(t, "lists with neighbours", x, api.ErrBig)
}

func TestDecodeRefusesWhatIsNoItem(t *testing.T) {
	for _, s := range []string{
		"",
		// One byte below 80 stands for itself.
		"\x81\x00", "\x81\x7f", "\xc2\x81\x7f",
		// Not more than 55.
		"\xb8\x00", "\xb8\x01\xff", "\xb8\x37" + letters(55), "\xf8\x00", "\xf8\x01\x80", "\xf8\x37" + letters(55),
		// The length's first byte is 0.
		"\xb9\x00\x38" + letters(56), "\xb9\x00\xff" + letters(255), "\xba\x00\x01\x00" + letters(256),
		"\xf9\x00\x38" + letters(56), "\xfa\x00\x01\x00" + letters(256), "\xbf\x00\x00\x00\x00\x00\x00\x00\x38" + letters(56),
		// Too little.
		"\x81", "\x82a", "\xb7" + letters(54), "\xb8", "\xb9", "\xb9\x01", "\xb8\x38" + letters(55), "\xb9\x01\x00" + letters(255),
		"\xc1", "\xc2a", "\xf8", "\xf9\x01", "\xf8\x38" + letters(55), "\xff", "\xbf",
		// Lengths that no string has.
		"\xbf\xff\xff\xff\xff\xff\xff\xff\xff", "\xff\xff\xff\xff\xff\xff\xff\xff\xff", "\xbf\x80\x00\x00\x00\x00\x00\x00\x00",
		"\xff\x80\x00\x00\x00\x00\x00\x00\x00" + letters(100), "\xbf\x01\x00\x00\x00\x00\x00\x00\x38" + letters(56),
		"\xbb\xff\xff\xff\xff" + letters(300), "\xfb\x80\x00\x00\x38" + letters(56),
		// Too much.
		"aa", "\x80\x80", "\xc0\xc0", "\x82abc", "\xb7" + letters(56), "\xb8\x38" + letters(57), "\xf8\x38" + letters(57), letters(1000),
		// An item that goes on past its list's end.
		"\xc2\x82a", "\xc2\x82ab", "\xc3\xc1\xc1a", "\xc1\xb8", "\xc2\xc2ab",
	} {
		noItem(t, s, s, api.ErrForm)
	}
}

func TestDecodeRefusesWhatIsBig(t *testing.T) {
	noItem(t, "MaxBytes and 1, else an item", "\xb9\x03\xe6"+letters(998), api.ErrBig)
	noItem(t, "the depth 9, nothing within", "\xc8\xc7\xc6\xc5\xc4\xc3\xc2\xc1\xc0", api.ErrBig)
	noItem(t, "the depth 9, bytes within", "\xc9\xc8\xc7\xc6\xc5\xc4\xc3\xc2\xc1x", api.ErrBig)
	noItem(t, "the depth 9, behind others", "\xc9x\xc7\xc6\xc5\xc4\xc3\xc2\xc1\xc0", api.ErrBig)
	noItem(t, "the depth 9, ahead of others", "\xc9\xc7\xc6\xc5\xc4\xc3\xc2\xc1\xc0x", api.ErrBig)
	noItem(t, "the depth of MaxBytes", deepest(), api.ErrBig)
}

func TestDecodeTellsTheErrorNamedFirst(t *testing.T) {
	noItem(t, "MaxBytes and 1, no item", letters(1001), api.ErrBig)
	noItem(t, "a million bytes, no item", strings.Repeat("\xff", 1000000), api.ErrBig)
	noItem(t, "MaxBytes, no item", strings.Repeat("\xff", 1000), api.ErrForm)
	noItem(t, "too deep, and no item within", "\xca\xc9\xc8\xc7\xc6\xc5\xc4\xc3\xc2\x81\x7f", api.ErrForm)
	noItem(t, "too deep, and no item behind", "\xca\xc8\xc7\xc6\xc5\xc4\xc3\xc2\xc1\xc0\x81", api.ErrForm)
	noItem(t, "too deep, and too much", "\xc8\xc7\xc6\xc5\xc4\xc3\xc2\xc1\xc0\xc0", api.ErrForm)
	noItem(t, "the depth of MaxBytes, and too little", deepest()[:900], api.ErrForm)
}

// deepest has as many lists within one another as MaxBytes bytes can.
func deepest() string {
	s := "\xc0"
	for {
		x := ownHead(0xc0, s)
		if len(x) > api.MaxBytes {
			return s
		}
		s = x
	}
}

// ownHead and ownBytes say once more, from the document, what the bytes are.
func ownHead(base byte, body string) string {
	n := len(body)
	switch {
	case n <= 55:
		return string([]byte{base + byte(n)}) + body
	case n < 256:
		return string([]byte{base + 56, byte(n)}) + body
	}
	return string([]byte{base + 57, byte(n / 256), byte(n % 256)}) + body
}

func ownBytes(x api.Item) string {
	if !x.List {
		if len(x.Bytes) == 1 && x.Bytes[0] < 0x80 {
			return x.Bytes
		}
		return ownHead(0x80, x.Bytes)
	}
	body := ""
	for _, y := range x.Items {
		body += ownBytes(y)
	}
	return ownHead(0xc0, body)
}

func ownDepth(x api.Item) int {
	if !x.List {
		return 0
	}
	d := 0
	for _, y := range x.Items {
		d = max(d, ownDepth(y))
	}
	return d + 1
}

// maker makes items by a fixed rule, the same at each run.
type maker uint64

func (m *maker) below(n int) int {
	*m = *m*6364136223846793005 + 1442695040888963407
	return int(uint64(*m) >> 33 % uint64(n))
}

func (m *maker) item(levels int) api.Item {
	if levels == 0 || m.below(3) == 0 {
		b := make([]byte, []int{0, 1, 1, 2, 8, 55, 56, 300}[m.below(8)])
		for i := range b {
			b[i] = byte(m.below(256))
		}
		return bytes(string(b))
	}
	x := list()
	for range m.below(5) {
		x.Items = append(x.Items, m.item(levels-1))
	}
	return x
}

// places tells x and all items within it, where they lie.
func places(x *api.Item) []*api.Item {
	all := []*api.Item{x}
	for i := range x.Items {
		all = append(all, places(&x.Items[i])...)
	}
	return all
}

func TestAStrayFieldInEveryPlace(t *testing.T) {
	m := maker(2)
	for range 200 {
		x := m.item(10)
		for _, place := range places(&x) {
			was := *place
			if was.List {
				place.Bytes = "x"
			} else {
				place.Items = []api.Item{list()}
			}
			noBytes(t, "made, with a stray field", x, api.ErrForm)
			*place = was
		}
	}
}

func TestManyItems(t *testing.T) {
	m := maker(1)
	for range 20000 {
		x := m.item(m.below(11))
		s := ownBytes(x)
		switch {
		case len(s) > api.MaxBytes:
			noBytes(t, "made, too many bytes", x, api.ErrBig)
			noItem(t, "made, too many bytes", s, api.ErrBig)
		case ownDepth(x) > api.MaxDepth:
			noBytes(t, "made, too deep", x, api.ErrBig)
			noItem(t, "made, too deep", s, api.ErrBig)
		default:
			wantBytes(t, "made", x, s)
			wantItem(t, "made", s, x)
		}
	}
}

// digits are the bytes at which short items turn from one form to another.
const digits = "\x00a\x7f\x80\x81\x82\x83\xb7\xb8\xbf\xc0\xc1\xc2\xc3\xf7\xf8\xff"

// strs tells all strings of n digits.
func strs(n int) []string {
	if n == 0 {
		return []string{""}
	}
	var all []string
	for _, s := range strs(n - 1) {
		for i := range len(digits) {
			all = append(all, s+digits[i:i+1])
		}
	}
	return all
}

// itemsOf tells all items of n bytes, each of its bytes a digit.
func itemsOf(n int) []api.Item {
	var all []api.Item
	if n == 1 {
		all = append(all, bytes(""), bytes("\x00"), bytes("a"), bytes("\x7f"))
	} else {
		for _, s := range strs(n - 1) {
			if n > 2 || s[0] >= 0x80 {
				all = append(all, bytes(s))
			}
		}
	}
	for _, l := range listsOf(n - 1) {
		all = append(all, list(l...))
	}
	return all
}

// listsOf tells all rows of items that have n bytes together.
func listsOf(n int) [][]api.Item {
	if n == 0 {
		return [][]api.Item{nil}
	}
	var all [][]api.Item
	for k := 1; k <= n; k++ {
		for _, x := range itemsOf(k) {
			for _, l := range listsOf(n - k) {
				all = append(all, append([]api.Item{x}, l...))
			}
		}
	}
	return all
}

func TestEveryShortString(t *testing.T) {
	for n := 1; n <= 4; n++ {
		known := map[string]api.Item{}
		for _, x := range itemsOf(n) {
			s, e := witness.Encode(x)
			if _, twice := known[s]; twice || e != api.OK || len(s) != n {
				t.Errorf("Encode(the item of %q) = %q, %d: not %d bytes of its own", ownBytes(x), s, e, n)
			}
			known[s] = x
		}
		for _, s := range strs(n) {
			if x, ok := known[s]; ok {
				wantItem(t, "short", s, x)
			} else {
				noItem(t, "short", s, api.ErrForm)
			}
		}
	}
}
