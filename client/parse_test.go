package client_test

import (
	"strings"
	"testing"

	"wicket/api"
)

// P11.1: the chapter's examples.
func TestParseExamples(t *testing.T) {
	isParsed(t, "# none\n\nid=tv&grants=device&scope=read+write\n", tv())
	isNotParsed(t, "id=tv", api.ErrLine, 1)
	isNotParsed(t, "id=a&grants=device\nid=a&grants=ciba", api.ErrThere, 2)
	isNotParsed(t, "id=a&grants=ciba&ping=yes&url=https://a/", api.ErrLine, 1)
}

// P11.1: clients stand in the order of their lines; the last line's end may be left out.
func TestParse(t *testing.T) {
	isParsed(t, tvLine+boxLine, tv(), box())
	isParsed(t, boxLine+tvLine, box(), tv())
	isParsed(t, tvLine+strings.TrimSuffix(boxLine, "\n"), tv(), box())
	isParsed(t, "\n\n"+tvLine+"# between\n\n"+boxLine+"\n#", tv(), box())
	for _, none := range []string{"", "\n", "\n\n\n", "#", "##", "# \x00\xff\r\n", "#id=a&grants=device", "\n#%\n\n"} {
		isParsed(t, none)
	}
}

// P11.1: names stand in any order, escaped in any way; pieces without bytes say nothing.
func TestParseForms(t *testing.T) {
	a := api.Client{Id: "a", Grants: api.GrantDevice}
	for _, line := range []string{"id=a&grants=device", "grants=device&id=a", "&&id=a&&grants=device&", "%69d=%61&grants=%64evice", "id=a&grants=device+device", "id=a&grants=device&secret=&ping=&url&scope=", "id=a&grants=device&secret&ping&url=&scope"} {
		isParsed(t, line, a)
	}
	a.Grants = api.GrantCiba
	isParsed(t, "id=a&grants=ciba", a)
	a.Grants = api.GrantCiba | api.GrantDevice
	for _, line := range []string{"id=a&grants=ciba+device", "id=a&grants=device+ciba", "id=a&grants=device%20ciba+device"} {
		isParsed(t, line, a)
	}
	a.Secret = " = "
	isParsed(t, "id=a&grants=ciba+device&secret=+=+", a)
	a.Scopes = []string{"a", "b", "c"}
	isParsed(t, "scope=c+b+a+b&id=a&grants=ciba+device&secret=%20%3d%20", a)
	isParsed(t, "id=id%3Da%26b%2B%25%23&grants=device", api.Client{Id: "id=a&b+%#", Grants: 1})
	isParsed(t, "id=#&grants=device", api.Client{Id: "#", Grants: 1})
	isParsed(t, "id=a=b&grants=device", api.Client{Id: "a=b", Grants: 1})
	isParsed(t, "id=b&secret=s&grants=ciba&ping=yes&url=https://b/", api.Client{Id: "b", Secret: "s", Grants: 2, Ping: true, Url: "https://b/"})
}

// P11.1: lines that are no such form, or say no valid client.
func TestParseLines(t *testing.T) {
	for _, line := range []string{
		"x", "&", "&&&", "=", "=x", " ", "\t", "\r", " #", "%23", "id", "id=", "id=a", "grants=device", "id=&grants=device", "id=a&grants=",
		"id=a&grants=device&x=1", "id=a&grants=device&x=", "id=a&grants=device&x", "id=a&grants=device&=", "id=a&grants=device&=x", "Id=a&grants=device", "id=a&Grants=device", "id=a&grants=device&scopes=a", "id=a&grants=device&id+=b", "id=a&grants=device&%00=b",
		"id=a&id=a&grants=device", "id=a&id=&grants=device", "id=&id=a&grants=device", "id=a&%69d=a&grants=device", "id=a&grants=device&grants=device", "id=a&grants=device&secret=&secret=", "id=a&grants=device&ping&ping", "id=a&grants=device&url=&url=", "id=a&grants=device&scope=a&scope=b", "id=a&grants=device&scope&scope=a",
		"id=a&grants=Device", "id=a&grants=devices", "id=a&grants=device++ciba", "id=a&grants=+device", "id=a&grants=device+", "id=a&grants=device+x", "id=a&grants=ciba,device", "id=a&grants=ciba%0adevice", "id=a&grants=1", "id=a&grants=device%22", "id=a&grants=" + strings.Repeat("device+", 37) + "ciba",
		"id=a&grants=device&ping=no", "id=a&grants=device&ping=yes", "id=b&secret=s&grants=ciba&ping=Yes&url=https://b/", "id=b&secret=s&grants=ciba&ping=yes+&url=https://b/", "id=b&secret=s&grants=ciba&ping=yes", "id=b&secret=s&grants=ciba&url=https://b/", "id=b&secret=s&grants=ciba&ping=&url=https://b/", "id=b&secret=s&grants=device&ping=yes&url=https://b/", "id=b&secret=&grants=ciba&ping=yes&url=https://b/", "id=b&secret=s&grants=ciba&ping=yes&url=http://b/x", "id=b&secret=s&grants=ciba&ping=yes&url=https://",
		"id=a&grants=device&scope=+", "id=a&grants=device&scope=a++b", "id=a&grants=device&scope=a+", "id=a&grants=device&scope=%22", "id=a&grants=device&scope=a%0ab", "id=a&grants=device&scope=" + strings.Repeat("s", 257),
		"id=a+b&grants=device", "id=%00&grants=device", "id=%ff&grants=device", "id=%C3%BC&grants=device", "id=a&grants=device&secret=%1f", "id=a&grants=device&secret=%7f",
		"id=%&grants=device", "id=%4&grants=device", "id=%zz&grants=device", "id=a b&grants=device", "id=a&grants=device ", " id=a&grants=device", "id=a&grants=device\r", "id=\xff&grants=device", "id=a&grants=device&\x00",
	} {
		isNotParsed(t, line, api.ErrLine, 1)
		isNotParsed(t, line+"\n", api.ErrLine, 1)
		isNotParsed(t, tvLine+"#\n"+line+"\n"+boxLine, api.ErrLine, 3)
		isParsed(t, "#"+line)
	}
}

// P11.1: the lengths of Id, Secret, Url and scopes, and one more, as they stand in a line.
func TestParseLengths(t *testing.T) {
	line := func(id, secret, url, scope int) string {
		return "id=" + strings.Repeat("i", id) + "&secret=" + strings.Repeat("s", secret) + "&grants=ciba&ping=yes&url=https://" + strings.Repeat("u", url-8) + "&scope=" + strings.Repeat("r", scope)
	}
	c := api.Client{Id: strings.Repeat("i", 64), Secret: strings.Repeat("s", 256), Grants: 2, Ping: true, Url: "https://" + strings.Repeat("u", 248), Scopes: []string{strings.Repeat("r", 256)}}
	isParsed(t, line(64, 256, 256, 256), c)
	isNotParsed(t, line(65, 256, 256, 256), api.ErrLine, 1)
	isNotParsed(t, line(64, 257, 256, 256), api.ErrLine, 1)
	isNotParsed(t, line(64, 256, 257, 256), api.ErrLine, 1)
	isNotParsed(t, line(64, 256, 256, 257), api.ErrLine, 1)
	isParsed(t, line(1, 1, 9, 1), api.Client{Id: "i", Secret: "s", Grants: 2, Ping: true, Url: "https://u", Scopes: []string{"r"}})
	isNotParsed(t, line(1, 1, 8, 1), api.ErrLine, 1)
	isParsed(t, "id=a&grants=device&scope="+strings.Join(scopesOf(32, 95), "+"), api.Client{Id: "a", Grants: 1, Scopes: scopesOf(32, 95)})
	isNotParsed(t, "id=a&grants=device&scope="+strings.Join(scopesOf(33, 98), "+"), api.ErrLine, 1)
}

// P11.1: a line is a form, so it has at most 16384 bytes; one that says nothing has as many as it likes.
func TestParseLineLength(t *testing.T) {
	const least = "id=a&grants=device"
	fill := strings.Repeat("&", 16384-len(least))
	isParsed(t, least+fill, api.Client{Id: "a", Grants: 1})
	isParsed(t, fill+least+"\n", api.Client{Id: "a", Grants: 1})
	isNotParsed(t, least+fill+"&", api.ErrLine, 1)
	isNotParsed(t, tvLine+least+fill+"&\n", api.ErrLine, 2)
	isParsed(t, strings.Repeat("#", 65536))
}

// P11.1: a text has at most 65536 bytes; one that has more is not looked at.
func TestParseLength(t *testing.T) {
	text := printed(t, filled()...)
	if len(text) != 65536 {
		t.Fatalf("the text has %d bytes", len(text))
	}
	isParsed(t, text, filled()...)
	isNotParsed(t, text+"\n", api.ErrLong, 0)
	isNotParsed(t, "x\n"+text, api.ErrLong, 0)
	isParsed(t, strings.Repeat("\n", 65536))
	isNotParsed(t, strings.Repeat("\n", 65537), api.ErrLong, 0)
	isParsed(t, tvLine+strings.Repeat("#", 65536-len(tvLine)), tv())
	isNotParsed(t, tvLine+strings.Repeat("#", 65537-len(tvLine)), api.ErrLong, 0)
	isNotParsed(t, strings.Repeat("x", 65537), api.ErrLong, 0)
	isNotParsed(t, strings.Repeat("x", 65536), api.ErrLine, 1)
}

// P11.1: 256 clients, and one more.
func TestParseMany(t *testing.T) {
	all := printed(t, many(256)...)
	isParsed(t, all, many(256)...)
	isParsed(t, all+"\n# no more\n\n", many(256)...)
	isNotParsed(t, all+tvLine, api.ErrMany, 257)
	isNotParsed(t, all+"\n#\n"+tvLine, api.ErrMany, 259)
	isNotParsed(t, "#\n"+all+tvLine+boxLine, api.ErrMany, 258)
}

// P11.1: of one line ErrLine goes ahead of ErrThere, and that ahead of ErrMany; of two lines the first counts, whatever its error.
func TestParseOrder(t *testing.T) {
	all := printed(t, many(256)...)
	const there, wrong = "id=c0000&grants=ciba\n", "id=c0000&grants=none\n"
	isNotParsed(t, all+there, api.ErrThere, 257)
	isNotParsed(t, all+wrong, api.ErrLine, 257)
	isNotParsed(t, all+"x=1\n"+tvLine, api.ErrLine, 257)
	isNotParsed(t, all+tvLine+wrong, api.ErrMany, 257)
	isNotParsed(t, all+tvLine+there, api.ErrMany, 257)
	isNotParsed(t, tvLine+tvLine+"x", api.ErrThere, 2)
	isNotParsed(t, "x\n"+tvLine+tvLine, api.ErrLine, 1)
	isNotParsed(t, tvLine+"\n"+boxLine+"#\n"+tvLine, api.ErrThere, 5)
	isNotParsed(t, tvLine+boxLine+"grants=ciba&id=%74v", api.ErrThere, 3)
	isParsed(t, tvLine+"id=TV&grants=device\nid=tv2&grants=device\n", tv(), api.Client{Id: "TV", Grants: 1}, api.Client{Id: "tv2", Grants: 1})
}
