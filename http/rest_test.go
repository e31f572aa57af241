package http_test

import (
	"strconv"
	"strings"
	"testing"

	"wicket/api"
)

// P15.1 to P15.4: the fields come in their order, with small names; a name may be there more than once.
func TestFields(t *testing.T) {
	saysRest(t, "\r\n", nil, "")
	saysRest(t, "b:2\r\na:1\r\nB:3\r\n\r\n", pairs("b", "2", "a", "1", "b", "3"), "")
	saysRest(t, "X-1: \t b c \t\r\nY:\r\n\r\n", pairs("x-1", "b c", "y", ""), "")
	printsRest(t, nil, "", "\r\n")
	printsRest(t, pairs("B", "2", "A-z", "x: y", "b", "", "b", "2"), "", "b: 2\r\na-z: x: y\r\nb:\r\nb: 2\r\n\r\n")
}

// P15.1 to P15.4: a field's name has 1 to MaxFieldName letters, digits and -.
func TestNames(t *testing.T) {
	long := strings.Repeat("n", api.MaxFieldName)
	for _, n := range []string{"a", "z", "0", "9", "-", "--", "1", smalls, digits + "-", long, "content-lengt", "content-lengths", "content-", "transfer-encodin", "xtransfer-encoding", "content_length"[:7]} {
		saysRest(t, n+": v\r\n\r\n", pairs(n, "v"), "")
		printsRest(t, pairs(n, "v"), "", n+": v\r\n\r\n")
	}
	for _, n := range []string{"A", "Z", "HOST", capitals, strings.ToUpper(long), "Cache-Control", "a1-B"} {
		saysRest(t, n+": v\r\n\r\n", pairs(strings.ToLower(n), "v"), "")
		printsRest(t, pairs(n, "v"), "", strings.ToLower(n)+": v\r\n\r\n")
	}
	for _, n := range []string{"", " ", " a", "a ", "a b", "\ta", "a\t", "a_b", "a.b", "a/b", "@", "[", "`", "{", "/", ",", "ä", "\x00", "\x7f", "a\r", "a\n", long + "n", strings.Repeat("n", 10000), "\u212aelvin"} {
		refusesRest(t, n+": v\r\n\r\n", api.ErrField, 0)
		printsNoRest(t, pairs(n, "v"), "", api.ErrField)
		printsNoRest(t, pairs("a", "v", n, "v"), "", api.ErrField)
		refusesRest(t, "a: v\r\n"+n+": v\r\n\r\n", api.ErrField, 6)
	}
	printsNoRest(t, pairs("a:", "v"), "", api.ErrField)
	printsNoRest(t, pairs("a:b", "v"), "", api.ErrField)
	for c := range 256 {
		n := string([]byte{'a', byte(c)})
		may := strings.Contains(smalls+capitals+digits+"-", n[1:])
		if may {
			printsRest(t, pairs(n, ""), "", strings.ToLower(n)+":\r\n\r\n")
			saysRest(t, n+":\r\n\r\n", pairs(strings.ToLower(n), ""), "")
			continue
		}
		printsNoRest(t, pairs(n, ""), "", api.ErrField)
		if c != ':' {
			refusesRest(t, n+":\r\n\r\n", api.ErrField, 0)
		}
	}
	saysRest(t, "a::\r\n\r\n", pairs("a", ":"), "")
}

// P15.1 to P15.4: a field's value has at most MaxFieldValue bytes from 32 to 126, the first and the last no blank.
func TestValues(t *testing.T) {
	long := strings.Repeat("v", api.MaxFieldValue)
	for _, v := range []string{"!", "~", ":", "a b", "a  b", "\"q\"", bytesFrom(33, 126), "a" + bytesFrom(32, 126), long, "a" + strings.Repeat(" ", api.MaxFieldValue-2) + "b"} {
		saysRest(t, "a: "+v+"\r\n\r\n", pairs("a", v), "")
		saysRest(t, "a:"+v+"\r\n\r\n", pairs("a", v), "")
		saysRest(t, "a: \t \t"+v+"\t\t \r\n\r\n", pairs("a", v), "")
		printsRest(t, pairs("a", v), "", "a: "+v+"\r\n\r\n")
	}
	for _, v := range []string{"a\tb", "a \t b", "a\rb", "a\nb", "\r", "\n", "a\r", "\na", "a\n b", "\x00", "\x1f", "\x7f", "\x80", "a\xffb", "ä", "\v", "\f", "\u00a0", "\u2003a", long + "v", "a" + strings.Repeat(" ", api.MaxFieldValue-1) + "b", strings.Repeat("v", 30000)} {
		refusesRest(t, "a: "+v+"\r\n\r\n", api.ErrField, 0)
		refusesRest(t, "b:\r\na:"+v+" \r\n\r\n", api.ErrField, 4)
		printsNoRest(t, pairs("a", v), "", api.ErrField)
		printsNoRest(t, pairs("b", "", "a", v), "", api.ErrField)
	}
	for _, v := range []string{" ", "\t", " a", "a ", "\ta", "a\t", "  ", " " + long, long[1:] + " "} {
		printsNoRest(t, pairs("a", v), "", api.ErrField)
		saysRest(t, "a:"+v+"\r\n\r\n", pairs("a", strings.Trim(v, " \t")), "")
	}
	saysRest(t, "a:"+strings.Repeat(" \t", 5000)+long+strings.Repeat(" \t", 5000)+"\r\n\r\n", pairs("a", long), "")
	saysRest(t, "a:\r\nb: \r\nc:\t \t\r\n\r\n", pairs("a", "", "b", "", "c", ""), "")
	for c := range 256 {
		v := string([]byte{'<', byte(c), '>'})
		if c < 32 || c > 126 {
			refusesRest(t, "a: "+v+"\r\n\r\n", api.ErrField, 0)
			printsNoRest(t, pairs("a", v), "", api.ErrField)
			continue
		}
		saysRest(t, "a: "+v+"\r\n\r\n", pairs("a", v), "")
		printsRest(t, pairs("a", v), "", "a: "+v+"\r\n\r\n")
	}
}

// P15.1 and P15.3: each line ends with 13 and 10, and one without bytes ends them all.
func TestLines(t *testing.T) {
	for _, s := range []string{"", "\r", "\n", "\r\r", "a", "a:", "a: b", "a: b\r", "a: b\n", "\n\n", "a: b\n\n", "a: b\r\r", "\n\r", " ", ":"} {
		refusesRest(t, s, api.ErrField, 0)
		refusesRest(t, "x:y\r\n"+s, api.ErrField, 5)
	}
	for _, s := range []string{"\r\r\n\r\n", "\n\r\n\r\n", "a\r\n\r\n", "a b\r\n\r\n", ":\r\n\r\n", ": a\r\n\r\n", " a: b\r\n\r\n", "\t\r\n\r\n", " \r\n\r\n", "a :b\r\n\r\n", "a\t: b\r\n\r\n", "a: b\r\r\n\r\n", "a: b\n\r\n\r\n", "a: b\nc: d\r\n\r\n", "a: b\rc: d\r\n\r\n", "a=b\r\n\r\n"} {
		refusesRest(t, s, api.ErrField, 0)
		refusesRest(t, "x:y\r\n"+s, api.ErrField, 5)
	}
	refusesRest(t, "a: b\r\n c\r\n\r\n", api.ErrField, 6)
	refusesRest(t, "a: b\r\n", api.ErrField, 6)
	refusesRest(t, "\r\n\r\n", api.ErrBody, 2)
	refusesRest(t, "\r\na: b\r\n\r\n", api.ErrBody, 2)
}

// P15.1 and P15.3: a content-length has 1 to 9 digits, whatever letters its name has, and is no field.
func TestLengths(t *testing.T) {
	for _, n := range []string{"content-length", "Content-Length", "CONTENT-LENGTH", "cONTENT-lENGTH"} {
		saysRest(t, n+": 3\r\n\r\nabc", nil, "abc")
		saysRest(t, n+":3\r\n\r\nabc", nil, "abc")
		saysRest(t, n+":\t 3 \t\r\n\r\nabc", nil, "abc")
		saysRest(t, "a:1\r\n"+n+": 0\r\nb:2\r\n\r\n", pairs("a", "1", "b", "2"), "")
		refusesRest(t, n+": 0\r\n\r\nx", api.ErrBody, len(n)+7)
		saysRest(t, n+": 000000003\r\n\r\nabc", nil, "abc")
		saysRest(t, n+": 000000000\r\n\r\n", nil, "")
		saysRest(t, n+": 010\r\n\r\n0123456789", nil, "0123456789")
		refusesRest(t, n+": 999999999\r\n\r\nabc", api.ErrBody, len(n)+15)
		refusesRest(t, n+": 3\r\n"+n+": 3\r\n\r\nabc", api.ErrLength, len(n)+5)
		refusesRest(t, n+": 0\r\na: b\r\ncontent-length: x\r\n\r\n", api.ErrLength, len(n)+11)
	}
	for _, v := range []string{"", "+3", "-3", "+0", "-0", "3x", "x", "0x3", "3.0", "3 3", "3,3", "1e0", "1_0", "3:", "0000000003", "1000000000", "9999999999", strings.Repeat("9", 40), strings.Repeat("0", 4096), "/", ":"} {
		refusesRest(t, "content-length: "+v+"\r\n\r\nabc", api.ErrLength, 0)
		refusesRest(t, "a:\r\nContent-Length:"+v+"\t\r\n\r\nabc", api.ErrLength, 4)
	}
	for _, v := range []string{"3\t3", "\x00", "٣", "3\r", strings.Repeat("3", 4097)} {
		refusesRest(t, "content-length: "+v+"\r\n\r\nabc", api.ErrField, 0)
	}
	refusesRest(t, "content-length: 3", api.ErrField, 0)
	refusesRest(t, "content-length : 3\r\n\r\nabc", api.ErrField, 0)
	refusesRest(t, "content-length\r\n\r\nabc", api.ErrField, 0)
}

// P15.1 and P15.3: nothing is read whose body's length is told by a transfer-encoding.
func TestCodings(t *testing.T) {
	for _, n := range []string{"transfer-encoding", "Transfer-Encoding", "TRANSFER-ENCODING"} {
		for _, v := range []string{"", "chunked", "identity", "3"} {
			refusesRest(t, n+": "+v+"\r\n\r\n", api.ErrLength, 0)
			refusesRest(t, "content-length: 0\r\n"+n+":"+v+"\r\n\r\n", api.ErrLength, 19)
		}
		refusesRest(t, n+": a\tb\r\n\r\n", api.ErrField, 0)
		refusesRest(t, n+": a", api.ErrField, 0)
	}
}

// P15.2 and P15.4: the two names by which a length is told are not handed in, whatever letters they have; ones that are near them are.
func TestLengthIsNotHandedIn(t *testing.T) {
	for _, n := range []string{"content-length", "Content-Length", "CONTENT-LENGTH", "transfer-encoding", "Transfer-Encoding", "TRANSFER-ENCODING"} {
		for _, v := range []string{"", "0", "3", "chunked"} {
			printsNoRest(t, pairs(n, v), "", api.ErrField)
			printsNoRest(t, pairs(n, v), "abc", api.ErrField)
			printsNoRest(t, pairs("a", "b", n, v), "abc", api.ErrField)
		}
	}
	printsRest(t, pairs("Content-Type", "a", "Content-Lengtj", "0", "Transfer-Encodins", ""), "abc", "content-type: a\r\ncontent-lengtj: 0\r\ntransfer-encodins:\r\ncontent-length: 3\r\n\r\nabc")
}

// P15.1 to P15.4: a body is any bytes, just as many as are told.
func TestBodies(t *testing.T) {
	for _, b := range []string{"x", "\r\n", "\r\n\r\n", "a: b\r\n", "GET / HTTP/1.1\r\n\r\n", "\x00", bytesFrom(0, 255), strings.Repeat("b", 9), strings.Repeat("b", 10), strings.Repeat("b", 99), strings.Repeat("b", 10000)} {
		n := strconv.Itoa(len(b))
		head := "content-length: " + n + "\r\n\r\n"
		saysRest(t, head+b, nil, b)
		printsRest(t, nil, b, head+b)
		printsRest(t, pairs("A", ""), b, "a:\r\n"+head+b)
		refusesRest(t, head+b+"x", api.ErrBody, len(head))
		refusesRest(t, head+b+"\r\n", api.ErrBody, len(head))
		refusesRest(t, head+b[1:], api.ErrBody, len(head))
		refusesRest(t, head, api.ErrBody, len(head))
		refusesRest(t, "\r\n"+b, api.ErrBody, 2)
	}
}

// P15.1 to P15.4: MaxFields fields may be, and a content-length beside them; one that is too many is told behind what is wrong in it.
func TestManyFields(t *testing.T) {
	full := strings.Repeat("a:b\r\n", api.MaxFields)
	l := make([]api.Pair, api.MaxFields)
	for i := range l {
		l[i] = api.Pair{Name: "a", Value: "b"}
	}
	sized := "content-length: 1\r\n"
	saysRest(t, full+"\r\n", l, "")
	saysRest(t, full+sized+"\r\nx", l, "x")
	saysRest(t, sized+full+"\r\nx", l, "x")
	saysRest(t, full[:5]+sized+full[5:]+"\r\nx", l, "x")
	printsRest(t, l, "", strings.Repeat("a: b\r\n", api.MaxFields)+"\r\n")
	printsRest(t, l, "x", strings.Repeat("a: b\r\n", api.MaxFields)+sized+"\r\nx")
	refusesRest(t, full+"a:b\r\n\r\n", api.ErrMany, len(full))
	refusesRest(t, full+"c:\r\n", api.ErrMany, len(full))
	refusesRest(t, full+sized+"c:\r\n\r\nx", api.ErrMany, len(full)+len(sized))
	refusesRest(t, sized+full+"c:\r\n\r\nx", api.ErrMany, len(full)+len(sized))
	refusesRest(t, full+full, api.ErrMany, len(full))
	refusesRest(t, full+"c", api.ErrField, len(full))
	refusesRest(t, full+"c d:\r\n", api.ErrField, len(full))
	refusesRest(t, full+"c: \x00\r\nc:\r\n", api.ErrField, len(full))
	refusesRest(t, full+"transfer-encoding:\r\n\r\n", api.ErrLength, len(full))
	refusesRest(t, full+"content-length:\r\n\r\n", api.ErrLength, len(full))
	refusesRest(t, full+sized+sized+"\r\n", api.ErrLength, len(full)+len(sized))
	refusesRest(t, full, api.ErrField, len(full))
	refusesRest(t, full+"\r\nx", api.ErrBody, len(full)+2)
	printsNoRest(t, append(l, l[0]), "", api.ErrMany)
	printsNoRest(t, make([]api.Pair, 100000), "", api.ErrMany)
}
