package client

import (
	"strings"

	"wicket/api"
	"wicket/urlform"
)

const (
	deviceWord = "device"
	cibaWord   = "ciba"
	pingWord   = "yes"
)

// names are those of a line, in the order in which they are printed.
var names = [...]string{"id", "secret", "grants", "ping", "url", "scope"}

// field is what is done with the value of a name: read lays it into a client, and says whether it may stand there; write is the value that a client has, empty if it is not to be printed.
type field struct {
	read  func(c *api.Client, value string) bool
	write func(c api.Client) string
}

func fields() map[string]field {
	return map[string]field{
		"id": {
			read:  func(c *api.Client, value string) bool { c.Id = value; return true },
			write: func(c api.Client) string { return c.Id },
		},
		"secret": {
			read:  func(c *api.Client, value string) bool { c.Secret = value; return true },
			write: func(c api.Client) string { return c.Secret },
		},
		"grants": {read: readGrants, write: grantsText},
		"ping":   {read: readPing, write: pingText},
		"url": {
			read:  func(c *api.Client, value string) bool { c.Url = value; return true },
			write: func(c api.Client) string { return c.Url },
		},
		"scope": {
			read:  readScopes,
			write: func(c api.Client) string { return listed(c.Scopes) },
		},
	}
}

func saysNothing(line string) bool {
	return line == "" || line[0] == '#'
}

// readLine is the client that a line says, and whether it says a valid one. A name is refused for its being there, whatever its value is; one without a value is not read.
func readLine(line string, known map[string]field) (api.Client, bool) {
	pairs, e, _ := urlform.Parse(line)
	if e != api.OK {
		return api.Client{}, false
	}
	var c api.Client
	for _, p := range pairs {
		f, ok := known[p.Name]
		if !ok {
			return api.Client{}, false
		}
		value, there, e := urlform.One(pairs, p.Name)
		if e != api.OK || there && !f.read(&c, value) {
			return api.Client{}, false
		}
	}
	return c, Check(c) == api.OK
}

// lineOf is the line that says c.
func lineOf(c api.Client, known map[string]field) string {
	var pairs []api.Pair
	for _, name := range names {
		if value := known[name].write(c); value != "" {
			pairs = append(pairs, api.Pair{Name: name, Value: value})
		}
	}
	return urlform.Print(pairs)
}

func readGrants(c *api.Client, value string) bool {
	words, e := urlform.Scopes(value)
	for _, w := range words {
		switch w {
		case deviceWord:
			c.Grants |= api.GrantDevice
		case cibaWord:
			c.Grants |= api.GrantCiba
		default:
			return false
		}
	}
	return e == api.OK
}

func grantsText(c api.Client) string {
	var words []string
	if c.Grants&api.GrantCiba != 0 {
		words = append(words, cibaWord)
	}
	if c.Grants&api.GrantDevice != 0 {
		words = append(words, deviceWord)
	}
	return strings.Join(words, " ")
}

func readPing(c *api.Client, value string) bool {
	c.Ping = value == pingWord
	return c.Ping
}

func pingText(c api.Client) string {
	if c.Ping {
		return pingWord
	}
	return ""
}

func readScopes(c *api.Client, value string) bool {
	scopes, e := urlform.Scopes(value)
	c.Scopes = scopes
	return e == api.OK
}
