package client_test

import (
	"strings"
	"testing"

	"wicket/api"
	"wicket/client"
)

// P11.5: the chapter's examples.
func TestBasicExamples(t *testing.T) {
	says(t, "Basic dHY6czEr", "tv", "s1 ")
	says(t, "basic  dHY6", "tv", "")
	for _, h := range []string{"Bearer x", "Basic dHY", "Basic"} {
		saysNothing(t, h)
	}
}

// P11.5: each letter of the first word may be capital or small; no other byte stands for it.
func TestBasicWord(t *testing.T) {
	for i := range 32 {
		word := []byte("basic")
		for k := range word {
			if i>>k&1 == 1 {
				word[k] -= 'a' - 'A'
			}
		}
		says(t, string(word)+" dHY6cw==", "tv", "s")
	}
	for at := range 5 {
		for b := range 256 {
			word := []byte("Basic")
			word[at] = byte(b)
			if !strings.EqualFold(string(word), "basic") {
				saysNothing(t, string(word)+" dHY6cw==")
			}
		}
	}
	for _, word := range []string{"", "B", "Basi", "Basicc", "BBasic", "Bas ic", "Ba\u017fic", "Basic:", "Digest", "\x00"} {
		saysNothing(t, word+" dHY6cw==")
	}
}

// P11.5: one blank or more stand behind the word, and nowhere else.
func TestBasicBlanks(t *testing.T) {
	for _, n := range []int{1, 2, 3, 100} {
		says(t, "Basic"+strings.Repeat(" ", n)+"dHY6cw==", "tv", "s")
	}
	for _, h := range []string{"", " ", "Basic ", "Basic  ", "BasicdHY6cw==", "Basic\tdHY6cw==", "Basic \tdHY6cw==", "Basic\t dHY6cw==", " Basic dHY6cw==", "Basic dHY6cw== ", "Basic dHY6 cw==", "Basic dHY6c w=", "Basic dHY6cw==\n", "Basic dHY6\ncw==", "Basic dHY6\r\ncw==", "Basic\u00a0dHY6cw=="} {
		saysNothing(t, h)
	}
}

// P11.5: the common alphabet, and no other's digits.
func TestBasicAlphabet(t *testing.T) {
	const digits = "ABCDEFGHIJKLMNOPQRSTUVWXYZabcdefghijklmnopqrstuvwxyz0123456789+/"
	for b := range 256 {
		text := "Basic YTpi" + string([]byte{byte(b)}) + "3h5"
		n, s, e := client.Basic(text)
		want, fault := slowBasicText(text)
		if n != want[0] || s != want[1] || e != fault {
			t.Errorf("Basic(%q): %q %q %d, not %q %d", text, n, s, e, want, fault)
		}
		if strings.IndexByte(digits, byte(b)) < 0 {
			saysNothing(t, text)
		}
	}
	says(t, "Basic Pz8/Pj4+Og==", "???>>>", "")
	saysNothing(t, "Basic Pz8_Pj4-Og==")
	says(t, "Basic YTo/Pz8+Pj4=", "a", "???>>>")
	saysNothing(t, "Basic YTo_Pz8-Pj4=")
	saysNothing(t, "Basic YTo/Pz8-Pj4=")
	saysNothing(t, "Basic YTo_Pz8+Pj4=")
}

// P11.5: = stands at the end up to a multiple of four, neither more nor fewer.
func TestBasicEnds(t *testing.T) {
	says(t, "Basic YTpi", "a", "b")
	says(t, "Basic YTpiYw==", "a", "bc")
	says(t, "Basic YTpiY2Q=", "a", "bcd")
	for _, s := range []string{"=", "==", "===", "====", "Y", "YT", "YTp", "YTpi=", "YTpi==", "YTpi===", "YTpi====", "YTpiYw", "YTpiYw=", "YTpiYw===", "YTpiYw====", "YTpiY2Q", "YTpiY2Q==", "YTpiY2Q===", "YTpiY===", "YTpiY2Q=YTpi", "YTpiYw==YTpi", "=YTpi", "YT=pi", "Y=T=", "YTpiY=w=", "YTpiYw=="[:7] + "A"} {
		saysNothing(t, "Basic "+s)
	}
}

// P11.5: bits that say nothing are zero.
func TestBasicBits(t *testing.T) {
	const digits = "ABCDEFGHIJKLMNOPQRSTUVWXYZabcdefghijklmnopqrstuvwxyz0123456789+/"
	for i := range digits {
		one, two := "Basic YTpiY"+digits[i:i+1]+"==", "Basic YTpiY2"+digits[i:i+1]+"="
		for _, h := range []string{one, two} {
			n, s, e := client.Basic(h)
			if want, fault := slowBasicText(h); n != want[0] || s != want[1] || e != fault {
				t.Errorf("Basic(%q): %q %q %d, not %q %d", h, n, s, e, want, fault)
			}
		}
		if i%16 != 0 {
			saysNothing(t, one)
		}
		if i%4 != 0 {
			saysNothing(t, two)
		}
	}
}

// P11.5: name and secret are unescaped each for itself; the first : counts.
func TestBasicTexts(t *testing.T) {
	says(t, header("a:b:c"), "a", "b:c")
	says(t, header("a::"), "a", ":")
	says(t, header("a%3Ab:c%3ad"), "a:b", "c:d")
	says(t, header(":"), "", "")
	says(t, header(":s"), "", "s")
	says(t, header("a:"), "a", "")
	says(t, header("a+b:c%20d+"), "a b", "c d ")
	says(t, header("%00%ff:%0A"), "\x00\xff", "\n")
	says(t, header("a/~!:&=\"\\"), "a/~!", "&=\"\\")
	says(t, header("%C3%BC:%25"), "ü", "%")
	for _, s := range []string{"", "a", "tv", "a%3Ab", "a b:c", "a:b c", "a:\n", "\x00:b", "a:\x7f", "a:\xff", "ü:b", "a:%", "a:%4", "a:%4g", "%:b", "%4:1", "%:41", "a%3:A", "a:b%"} {
		saysNothing(t, header(s))
	}
}

// P11.5: a header of 1024 bytes, and one more.
func TestBasicLength(t *testing.T) {
	text := header("tv:s")
	says(t, "Basic"+strings.Repeat(" ", 1024-len(text)+1)+text[6:], "tv", "s")
	saysNothing(t, "Basic"+strings.Repeat(" ", 1025-len(text)+1)+text[6:])
	secret := strings.Repeat("s", 762-3)
	if h := "Basic   " + coded("tv:"+secret); len(h) == 1024 {
		says(t, h, "tv", secret)
		saysNothing(t, "Basic "+h[5:])
	} else {
		t.Errorf("the header has %d bytes", len(h))
	}
	saysNothing(t, "Basic "+coded("tv:"+strings.Repeat("s", 2000)))
	saysNothing(t, header("tv:"+strings.Repeat("s", 70000)))
	saysNothing(t, strings.Repeat("x", 1024))
	saysNothing(t, strings.Repeat("x", 1025))
}

// P11.5: drawn headers, right or nearly so, against the slow way.
func TestBasicAgainstSlow(t *testing.T) {
	r := seeded(5)
	count := map[api.Errno]int{}
	for range 40000 {
		h := drawnHeader(r, drawnWritten(r), drawnWritten(r))
		want, fault := slowBasicText(h)
		if n, s, e := client.Basic(h); n != want[0] || s != want[1] || e != fault {
			t.Fatalf("Basic(%q): %q %q %d, not %q %d", h, n, s, e, want, fault)
		}
		count[fault]++
	}
	if count[api.OK] < 5000 || count[api.ErrBasic] < 5000 {
		t.Errorf("told: %v", count)
	}
}
