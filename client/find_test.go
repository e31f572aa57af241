package client_test

import (
	"testing"

	"wicket/api"
	"wicket/client"
)

func isFound(t *testing.T, l []api.Client, id string, want api.Client) {
	t.Helper()
	if c, ok := client.Find(l, id); !ok || !same(c, want) {
		t.Errorf("Find(%q): %+v %v, not %+v", id, c, ok, want)
	}
}

func isNotFound(t *testing.T, l []api.Client, id string) {
	t.Helper()
	if c, ok := client.Find(l, id); ok || !isZero(c) {
		t.Errorf("Find(%q): %+v %v", id, c, ok)
	}
}

// P11.4: the client with that Id, wherever it stands; every byte counts.
func TestFind(t *testing.T) {
	l := append(many(300), tv(), box())
	isFound(t, l, "tv", tv())
	isFound(t, l, "box", box())
	for _, c := range many(300) {
		isFound(t, l, c.Id, c)
	}
	for _, id := range []string{"", "t", "tv ", " tv", "TV", "tvx", "c300", "tv\x00", "box\n"} {
		isNotFound(t, l, id)
	}
	isNotFound(t, nil, "tv")
	isNotFound(t, nil, "")
	isNotFound(t, []api.Client{}, "tv")
}

// P11.4: of two with one Id the first; a list is not asked whether its clients are valid.
func TestFindFirst(t *testing.T) {
	other := api.Client{Id: "tv", Secret: "other", Grants: 9, Url: "u", Scopes: []string{"b", "a", "a"}}
	isFound(t, []api.Client{box(), tv(), other}, "tv", tv())
	isFound(t, []api.Client{other, box(), tv()}, "tv", other)
	none := api.Client{Secret: "of no name"}
	isFound(t, []api.Client{tv(), none}, "", none)
}
