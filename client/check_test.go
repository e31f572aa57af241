package client_test

import (
	"strings"
	"testing"

	"wicket/api"
	"wicket/client"
)

// P11.3: ordinary clients.
func TestCheck(t *testing.T) {
	isValid(t, "tv", tv())
	isValid(t, "box", box())
	isValid(t, "the least", api.Client{Id: "a", Grants: api.GrantDevice})
	isValid(t, "a secret without pings", api.Client{Id: "a", Secret: "s", Grants: api.GrantCiba})
	isNotValid(t, "the zero client", api.Client{})
}

// P11.3: an Id has 1 to 64 bytes.
func TestCheckIdLength(t *testing.T) {
	for _, n := range []int{1, 2, 63, 64} {
		isValid(t, "Id", with(func(c *api.Client) { c.Id = strings.Repeat("i", n) }))
	}
	for _, n := range []int{0, 65, 66, 256, 70000} {
		isNotValid(t, "Id", with(func(c *api.Client) { c.Id = strings.Repeat("i", n) }))
	}
}

// P11.3: a Secret has at most 256 bytes.
func TestCheckSecretLength(t *testing.T) {
	for _, n := range []int{1, 2, 64, 65, 255, 256} {
		isValid(t, "Secret", with(func(c *api.Client) { c.Secret = strings.Repeat("s", n) }))
	}
	for _, n := range []int{257, 258, 70000} {
		isNotValid(t, "Secret", with(func(c *api.Client) { c.Secret = strings.Repeat("s", n) }))
	}
}

// P11.3: a Url has 9 to 256 bytes, where there are pings.
func TestCheckUrlLength(t *testing.T) {
	for _, n := range []int{9, 10, 255, 256} {
		isValid(t, "Url", with(func(c *api.Client) { c.Url = "https://" + strings.Repeat("u", n-8) }))
	}
	for _, n := range []int{8, 257, 258, 70000} {
		isNotValid(t, "Url", with(func(c *api.Client) { c.Url = "https://" + strings.Repeat("u", n-8) }))
	}
	for _, u := range []string{"", "h", "https:/", "https:/a/b", "http://box/cb", "HTTPS://box/cb", "https//box/cb/", "xhttps://box", "ahttps://", "wss://box/cb"} {
		isNotValid(t, u, with(func(c *api.Client) { c.Url = u }))
	}
}

// P11.3: which bytes a text has, at its beginning, in its midst and at its end.
func TestCheckBytes(t *testing.T) {
	put := func(c *api.Client, field int, text string) {
		switch field {
		case 0:
			c.Id = text
		case 1:
			c.Secret = text
		case 2:
			c.Url = "https://" + text
		}
	}
	for i := range 256 {
		b := string([]byte{byte(i)})
		for field, low := range []int{33, 32, 33} {
			for _, text := range []string{b, b + "xx", "x" + b + "x", "xx" + b} {
				c := with(func(c *api.Client) { put(c, field, text) })
				if i >= low && i <= 126 {
					isValid(t, "a byte", c)
				} else {
					isNotValid(t, "a byte", c)
				}
			}
		}
	}
	isNotValid(t, "a byte ahead of the Url", with(func(c *api.Client) { c.Url = "\x00ttps://box" }))
}

// P11.3: Grants is 1, 2 or 3.
func TestCheckGrants(t *testing.T) {
	for g := -5; g < 20; g++ {
		for _, c := range []api.Client{{Id: "a", Grants: g}, {Id: "a", Secret: "s", Grants: g}} {
			if g >= 1 && g <= 3 {
				isValid(t, "Grants", c)
			} else {
				isNotValid(t, "Grants", c)
			}
		}
	}
	isNotValid(t, "Grants", with(func(c *api.Client) { c.Grants = 6 }))
	isNotValid(t, "Grants", with(func(c *api.Client) { c.Grants = -1 }))
	isNotValid(t, "Grants", with(func(c *api.Client) { c.Grants = 1<<62 | 2 }))
}

// P11.3: pings need GrantCiba, a secret, and a Url; without them there is no Url.
func TestCheckPing(t *testing.T) {
	for g := 1; g <= 3; g++ {
		for _, secret := range []string{"", "s", " "} {
			for _, ping := range []bool{false, true} {
				for _, url := range []string{"", "https://a"} {
					c := api.Client{Id: "a", Grants: g, Secret: secret, Ping: ping, Url: url}
					told := ping && g >= 2 && secret != "" && url != ""
					if told || !ping && url == "" {
						isValid(t, "Ping", c)
					} else {
						isNotValid(t, "Ping", c)
					}
				}
			}
		}
	}
}

// P11.3: Scopes are what urlform.Scopes answers of some text.
func TestCheckScopes(t *testing.T) {
	for _, l := range [][]string{nil, {}, {"a"}, {"a", "b"}, {"a", "aa"}, {"A", "a"}, {"!", "#", "[", "]", "~"}, {strings.Repeat("s", 256)}, scopesOf(32, 95), scopesOf(32, 256), scopesOf(2, 256)} {
		isValid(t, "Scopes", api.Client{Id: "a", Grants: 1, Scopes: l})
	}
	for _, l := range [][]string{{""}, {"", "a"}, {"a", ""}, {"", ""}, {"b", "a"}, {"a", "a"}, {"a", "b", "a"}, {"aa", "a"}, {"a", "A"}, {"a b"}, {" "}, {"a "}, {"\""}, {"\\"}, {"a", "b\""}, {"\x7f"}, {"a\x80"}, {"\n"}, {strings.Repeat("s", 257)}, scopesOf(33, 98), scopesOf(32, 257), scopesOf(2, 257), make([]string, 40), make([]string, 70000)} {
		isNotValid(t, "Scopes", api.Client{Id: "a", Grants: 1, Scopes: l})
	}
}

// P11.3: drawn clients are valid, or not, as the slow way says.
func TestCheckAgainstSlow(t *testing.T) {
	r := seeded(3)
	count := map[api.Errno]int{}
	for range 20000 {
		c := drawnClient(r)
		if r.Intn(2) == 0 {
			c = bent(r, c)
		}
		want := slowCheck(c)
		if e := client.Check(c); e != want {
			t.Fatalf("Check(%+v): %d, not %d", c, e, want)
		}
		count[want]++
	}
	if count[api.OK] < 5000 || count[api.ErrClient] < 5000 {
		t.Errorf("told: %v", count)
	}
}
