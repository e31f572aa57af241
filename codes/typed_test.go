package codes_test

import (
	"math/rand"
	"strings"
	"testing"

	"wicket/api"
	"wicket/codes"
)

// P9.4, example 2.
func TestShow(t *testing.T) {
	shows(t, "BCDFGHJK", "BCDF-GHJK")
	shows(t, "LMNPQRST", "LMNP-QRST")
	shows(t, "VWXZZXWV", "VWXZ-ZXWV")
	shows(t, "BBBBBBBB", "BBBB-BBBB")
	for _, none := range []string{"", "BCD", "BCDFGHJ", "BCDFGHJKL", "BCDFGHJKBCDFGHJK", "BCDFGHJA", "bcdfghjk", "BCDFGHJk", "BCDF-GHJK", "BCDF-GHJ", " BCDFGHJ", "BCDFGHJ ", "        ", "--------", "\x00\x00\x00\x00\x00\x00\x00\x00", "BCDFGHJ\xcb", "ÄÄÄÄ", long(8), strings.Repeat("B", 1<<16)} {
		shows(t, none, "")
	}
}

// P9.4: each byte at each place: it is shown if it is of the twenty, and not otherwise.
func TestShowOfEachByte(t *testing.T) {
	for place := range 8 {
		for b := range 256 {
			code := []byte("ZXWVTSRQ")
			code[place] = byte(b)
			want := ""
			if strings.Contains(twenty, string(code[place:place+1])) {
				want = string(code[:4]) + "-" + string(code[4:])
			}
			shows(t, string(code), want)
		}
	}
}

// P9.5, example 3.
func TestNormal(t *testing.T) {
	for _, typed := range []string{
		"BCDFGHJK", "bcdfghjk", "bcdf-ghjk", "BCDF-GHJK", "BcDfGhJk", " B.C_D/F GHJK ", "B-C-D-F-G-H-J-K", "----bcdfghjk", "bcdfghjk////", "b __..//-- cdfghjk",
		strings.Repeat(" ", 56) + "bcdfghjk", "BCDFGHJK" + strings.Repeat("_", 56), "bcdf" + strings.Repeat("./", 28) + "ghjk",
	} {
		normal(t, typed, "BCDFGHJK", api.OK)
	}
	normal(t, "lmnp-qrst", "LMNPQRST", api.OK)
	normal(t, "zxwv.vwxz", "ZXWVVWXZ", api.OK)
	for _, typed := range []string{
		"", " ", "-", "BCDFGHJ", "BCDFGHJKL", "BCDFGHJA", "BCDFGHJK1", "1BCDFGHJK", "BCDFGHJa", "BCDF-GHJ", "bcdf-ghjk-l", "\tBCDFGHJK", "BCDFGHJK\n", "BCDF\x00GHJK", "BCDF+GHJK", "BCDF,GHJK", "BCDF:GHJK", "BCDF\\GHJK", "BCDF~GHJK", "BCDF=GHJK", "B", "BCDFGHJKBCDFGHJK",
		strings.Repeat(" ", 64), strings.Repeat("B", 64), long(64), strings.Repeat(" ", 57) + "BCDFGHJ", strings.Repeat(" ", 55) + "BCDFGHJKL",
	} {
		normal(t, typed, "", api.ErrWord)
	}
}

// P9.5: more than MaxTyped bytes are too long, whatever they are: ahead of all else.
func TestNormalTooLong(t *testing.T) {
	for _, typed := range []string{
		strings.Repeat(" ", 65), strings.Repeat("B", 65), strings.Repeat("1", 65), "BCDFGHJK" + strings.Repeat(" ", 57), strings.Repeat("-", 57) + "bcdfghjk", "BCDFGHJK" + strings.Repeat("\xff", 57), strings.Repeat(" ", 1<<20),
	} {
		normal(t, typed, "", api.ErrLong)
	}
	normal(t, "BCDFGHJK"+strings.Repeat(" ", 56), "BCDFGHJK", api.OK)
	normal(t, strings.Repeat("é", 32), "", api.ErrWord)
	normal(t, strings.Repeat("é", 33), "", api.ErrLong)
}

// P9.5: each byte, put in ahead of each letter and in the place of each.
func TestNormalOfEachByte(t *testing.T) {
	const code = "BCDFGHJK"
	for b := range 256 {
		c := string([]byte{byte(b)})
		mark := strings.Contains(" -_./", c)
		at := strings.Index(twenty, c)
		if at < 0 {
			at = strings.Index("bcdfghjklmnpqrstvwxz", c)
		}
		for place := range 9 {
			ahead, behind := code[:place], code[place:]
			if mark {
				normal(t, ahead+c+behind, code, api.OK)
			} else {
				normal(t, ahead+c+behind, "", api.ErrWord)
			}
			if place == 8 {
				continue
			}
			if at >= 0 {
				normal(t, ahead+c+behind[1:], ahead+twenty[at:at+1]+behind[1:], api.OK)
			} else {
				normal(t, ahead+c+behind[1:], "", api.ErrWord)
			}
		}
	}
}

// P9.5: letters are those of ASCII: none that a wider table takes for one of the twenty, and no wide blank or dash.
func TestNormalBeyondAscii(t *testing.T) {
	for _, wide := range []string{"\u017f", "\u212a", "\uff22", "\uff42", "\u0412", "\u00df", "\u010d", "\u00a0", "\u2010", "\u2011", "\u2013", "\u2212", "\u3000", "\ufeff", "\u200b", "\xe2", "\xc5", "\x85", "\xa0", "\xc2"} {
		normal(t, "BCDFGHJ"+wide, "", api.ErrWord)
		normal(t, "BCDF"+wide+"GHJK", "", api.ErrWord)
		normal(t, wide+"BCDFGHJK", "", api.ErrWord)
	}
}

// slowNormal reads the promise's words from the end: what is left when the marks are taken out.
func slowNormal(typed string) (string, api.Errno) {
	if len(typed) > 64 {
		return "", api.ErrLong
	}
	for _, mark := range []string{" ", "-", "_", ".", "/"} {
		typed = strings.ReplaceAll(typed, mark, "")
	}
	code := ""
	for len(typed) > 0 {
		at := strings.Index("BbCcDdFfGgHhJjKkLlMmNnPpQqRrSsTtVvWwXxZz", typed[:1])
		if at < 0 {
			return "", api.ErrWord
		}
		code, typed = code+twenty[at/2:at/2+1], typed[1:]
	}
	if len(code) != 8 {
		return "", api.ErrWord
	}
	return code, api.OK
}

// P9.5: drawn texts, most of them near a user code, against the slow way.
func TestNormalAgainstSlow(t *testing.T) {
	seen := map[api.Errno]int{}
	for seed := range int64(20000) {
		r := rand.New(rand.NewSource(seed))
		typed := typedOf(r, randomCode(r)[:8-r.Intn(8)/7], r.Intn(60))
		if r.Intn(3) == 0 {
			at := r.Intn(len(typed) + 1)
			typed = typed[:at] + string(randomBytes(r, 1)) + typed[at:]
		}
		code, e := slowNormal(typed)
		normal(t, typed, code, e)
		seen[e]++
	}
	if seen[api.OK] < 1000 || seen[api.ErrWord] < 1000 || seen[api.ErrLong] < 100 {
		t.Errorf("seen too little: %v", seen)
	}
}

// typedOf is a code as somebody types it: capital or small, with so many marks anywhere.
func typedOf(r *rand.Rand, code string, marks int) string {
	for range marks {
		at := r.Intn(len(code) + 1)
		code = code[:at] + string(" -_./"[r.Intn(5)]) + code[at:]
	}
	var b strings.Builder
	for i := range len(code) {
		c := code[i : i+1]
		if r.Intn(2) == 0 {
			c = strings.ToLower(c)
		}
		b.WriteString(c)
	}
	return b.String()
}

// P9.7: what was made, shown or typed is read as itself.
func TestCodesAreReadAsThemselves(t *testing.T) {
	r := rand.New(rand.NewSource(5))
	for range 3000 {
		code, e := codes.User(codes.NewSource(randomBytes(r, 100)))
		if e != api.OK {
			t.Fatalf("User: %d", e)
		}
		for _, c := range []string{code, randomCode(r)} {
			shown := codes.Show(c)
			if len(shown) != 9 {
				t.Fatalf("Show(%q): %q", c, shown)
			}
			normal(t, c, c, api.OK)
			normal(t, shown, c, api.OK)
			normal(t, strings.ToLower(c), c, api.OK)
			normal(t, strings.ToLower(shown), c, api.OK)
			normal(t, typedOf(r, c, r.Intn(57)), c, api.OK)
			normal(t, typedOf(r, shown, r.Intn(56)), c, api.OK)
		}
	}
}
