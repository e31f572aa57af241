package client

import (
	"strings"

	"wicket/api"
	"wicket/digest"
	"wicket/urlform"
)

const schemeWord = "basic"

// claim is what somebody says who asks: which client it is, by which secret, and how that was told.
type claim struct {
	how    int
	name   string
	secret string
}

// Basic: P11.5.
func Basic(header string) (string, string, api.Errno) {
	if len(header) > api.MaxHeader {
		return "", "", api.ErrBasic
	}
	coded, ok := behindScheme(header)
	if !ok {
		return "", "", api.ErrBasic
	}
	said, ok := fromCommon(coded)
	if !ok {
		return "", "", api.ErrBasic
	}
	return nameAndSecret(said)
}

// behindScheme is what stands behind the header's first word and its blanks, and whether that word is the right one.
func behindScheme(header string) (string, bool) {
	word, rest, blank := strings.Cut(header, " ")
	return strings.TrimLeft(rest, " "), blank && isScheme(word)
}

// isScheme: capital and small letters differ in one bit, and no other byte comes to a letter by it.
func isScheme(word string) bool {
	if len(word) != len(schemeWord) {
		return false
	}
	for i := range len(word) {
		if word[i]|0x20 != schemeWord[i] {
			return false
		}
	}
	return true
}

// fromCommon is the text whose base64 in the common alphabet is coded, and whether there is one. Two of the digits are others in digest's alphabet, which are none here.
func fromCommon(coded string) (string, bool) {
	if len(coded)%4 != 0 || strings.ContainsAny(coded, "-_") {
		return "", false
	}
	for range 2 {
		coded = strings.TrimSuffix(coded, "=")
	}
	coded = strings.ReplaceAll(coded, "+", "-")
	coded = strings.ReplaceAll(coded, "/", "_")
	text, e, _ := digest.FromBase64(coded)
	return string(text), e == api.OK
}

func nameAndSecret(said string) (string, string, api.Errno) {
	name, secret, ok := strings.Cut(said, ":")
	n, e, _ := urlform.Unescape(name)
	s, f, _ := urlform.Unescape(secret)
	if !ok || e != api.OK || f != api.OK {
		return "", "", api.ErrBasic
	}
	return n, s, api.OK
}

// Authenticate: P11.6.
func Authenticate(l []api.Client, header string, form []api.Pair) (api.Client, int, api.Errno) {
	said, e := claimOf(header, form)
	if e != api.OK {
		return api.Client{}, 0, e
	}
	c, there := Find(l, said.name)
	switch {
	case !there:
		return api.Client{}, 0, api.ErrClient
	case !said.holds(c):
		return api.Client{}, 0, api.ErrProof
	}
	return c, said.how, api.OK
}

// claimOf is what header and form say together.
func claimOf(header string, form []api.Pair) (claim, api.Errno) {
	body, e := claimOfForm(form)
	switch {
	case e != api.OK:
		return claim{}, e
	case header != "":
		return claimOfHeader(header, body)
	case body.name == "":
		return claim{}, api.ErrNone
	}
	return body, api.OK
}

// claimOfForm: its name and its secret are empty, where the parameters are not there.
func claimOfForm(form []api.Pair) (claim, api.Errno) {
	name, _, e := urlform.One(form, "client_id")
	if e != api.OK {
		return claim{}, e
	}
	secret, there, e := urlform.One(form, "client_secret")
	if e != api.OK {
		return claim{}, e
	}
	how := api.ProofNone
	if there {
		how = api.ProofPost
	}
	return claim{how: how, name: name, secret: secret}, api.OK
}

// claimOfHeader is what the header says, if the form says nothing against it: a secret is told in one way only.
func claimOfHeader(header string, body claim) (claim, api.Errno) {
	name, secret, e := Basic(header)
	switch {
	case e != api.OK:
		return claim{}, e
	case body.secret != "":
		return claim{}, api.ErrTwice
	case body.name != "" && body.name != name:
		return claim{}, api.ErrProof
	}
	return claim{how: api.ProofBasic, name: name, secret: secret}, api.OK
}

// holds: does the claim show that its maker is c? One that was told with a secret needs a client that has one; then, as without, what was told must be what is kept.
func (said claim) holds(c api.Client) bool {
	switch said.how {
	case api.ProofBasic, api.ProofPost:
		if c.Secret == "" {
			return false
		}
		fallthrough
	case api.ProofNone:
		return digest.Same([]byte(said.secret), []byte(c.Secret))
	}
	return false
}
