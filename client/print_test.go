package client_test

import (
	"strings"
	"testing"

	"wicket/api"
)

// P11.2: a line a client, the names in their order, those without a value left out.
func TestPrint(t *testing.T) {
	isPrinted(t, "")
	isPrinted(t, tvLine, tv())
	isPrinted(t, boxLine, box())
	isPrinted(t, boxLine+tvLine, box(), tv())
	isPrinted(t, "id=a&grants=device\n", api.Client{Id: "a", Grants: 1})
	isPrinted(t, "id=a&grants=ciba\n", api.Client{Id: "a", Grants: 2})
	isPrinted(t, "id=a&grants=ciba+device\n", api.Client{Id: "a", Grants: 3})
	isPrinted(t, "id=a&secret=+&grants=device\n", api.Client{Id: "a", Secret: " ", Grants: 1, Scopes: []string{}})
	isPrinted(t, "id=%23%21&secret=%7E-._*%2F&grants=device&scope=%21%3D+%26\n", api.Client{Id: "#!", Secret: "~-._*/", Grants: 1, Scopes: []string{"!=", "&"}})
	isPrinted(t, "id=b&secret=s&grants=ciba&ping=yes&url=https%3A%2F%2Fu\n", api.Client{Id: "b", Secret: "s", Grants: 2, Ping: true, Url: "https://u"})
}

// P11.2: two clients may have everything alike but their Ids, and stand in any order.
func TestPrintTwins(t *testing.T) {
	other := box()
	other.Id = "BOX"
	isPrinted(t, boxLine+strings.Replace(boxLine, "box", "BOX", 1), box(), other)
	isNotPrinted(t, "twice", []api.Client{tv(), box(), tv()}, api.ErrThere)
	isNotPrinted(t, "one Id", []api.Client{box(), {Id: "box", Grants: 1}}, api.ErrThere)
	isNotPrinted(t, "the last two", append(many(200), tv(), tv()), api.ErrThere)
}

// P11.2: 256 clients, and one more.
func TestPrintMany(t *testing.T) {
	var want strings.Builder
	for _, c := range many(256) {
		want.WriteString("id=" + c.Id + "&grants=device\n")
	}
	isPrinted(t, want.String(), many(256)...)
	isNotPrinted(t, "one more", many(257), api.ErrMany)
	isNotPrinted(t, "far more", many(9999), api.ErrMany)
}

// P11.2: a text of 65536 bytes, and one more.
func TestPrintLength(t *testing.T) {
	l := filled()
	if s := printed(t, l...); len(s) != 65536 {
		t.Fatalf("the text has %d bytes", len(s))
	}
	l[255].Id += "x"
	isNotPrinted(t, "one byte more", l, api.ErrLong)
	l = filled()
	l[0].Secret = l[0].Secret[1:] + "&"
	isNotPrinted(t, "two bytes more by an escape", l, api.ErrLong)
	l[1].Secret = l[1].Secret[2:]
	if s := printed(t, l...); len(s) != 65536 {
		t.Errorf("the text has %d bytes", len(s))
	}
}

// P11.2: ErrClient goes ahead of ErrThere, that ahead of ErrMany, that ahead of ErrLong; where they stand has no part.
func TestPrintOrder(t *testing.T) {
	wrong := api.Client{Id: "wrong"}
	long := filled()
	long[0].Secret = strings.Repeat("s", 256)
	isNotPrinted(t, "long", long, api.ErrLong)
	isNotPrinted(t, "long and many", append(filled(), tv()), api.ErrMany)
	isNotPrinted(t, "long, many and there", append(filled(), filled()[0]), api.ErrThere)
	isNotPrinted(t, "long and there", append(long[:255:255], long[0]), api.ErrThere)
	isNotPrinted(t, "all", append(filled(), filled()[0], wrong), api.ErrClient)
	isNotPrinted(t, "many and not valid", append(many(300), wrong), api.ErrClient)
	isNotPrinted(t, "there ahead of not valid", []api.Client{tv(), tv(), wrong}, api.ErrClient)
	isNotPrinted(t, "two that are not valid with one Id", []api.Client{wrong, wrong}, api.ErrClient)
	isNotPrinted(t, "many ahead of there", append(many(300), many(1)...), api.ErrThere)
}
