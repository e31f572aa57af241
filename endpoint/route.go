package endpoint

import (
	"wicket/api"
	"wicket/client"
	"wicket/grant"
	"wicket/http"
	"wicket/jtext"
	"wicket/urlform"
)

const (
	get      = "GET"
	post     = "POST"
	formType = "application/x-www-form-urlencoded"
)

// The paths that answers name too.
const (
	devicePath     = "/device_authorization"
	cibaPath       = "/bc-authorize"
	tokenPath      = "/token"
	introspectPath = "/introspect"
	verifyPath     = "/verify"
)

// visit is a request that has come to its route.
type visit struct {
	*Front
	engine *grant.Engine
	draws  []byte
	fields []api.Pair
	form   []api.Pair
}

// route is where requests go that have its path.
type route struct {
	path   string
	method string
	answer func(v visit) answer
}

func routes() []route {
	return []route{
		{path: devicePath, method: post, answer: visit.askForDevice},
		{path: cibaPath, method: post, answer: visit.askForSubject},
		{path: tokenPath, method: post, answer: visit.poll},
		{path: introspectPath, method: post, answer: visit.introspect},
		{path: "/.well-known/oauth-authorization-server", method: get, answer: visit.describe},
		{path: verifyPath, method: get, answer: visit.look},
		{path: "/waiting", method: get, answer: visit.wait},
		{path: "/decide", method: post, answer: visit.decide},
	}
}

// answer is that to the request raw, if it is not given up.
func (f *Front) answer(e *grant.Engine, raw string, draws []byte) answer {
	q := requestOf(raw)
	path, query := http.Split(q.Target)
	r := routeOf(path)
	if q.Method != r.method {
		panic(refusal(405, invalidRequest, api.Pair{Name: "allow", Value: r.method}))
	}
	return r.answer(visit{Front: f, engine: e, draws: draws, fields: q.Fields, form: formOf(q, query)})
}

func requestOf(raw string) api.Request {
	q, err, _ := http.ParseRequest(raw)
	switch err {
	case api.OK:
	case api.ErrLong:
		panic(refusal(413, invalidRequest))
	default:
		panic(refusal(400, invalidRequest))
	}
	return q
}

func routeOf(path string) route {
	for _, r := range routes() {
		if r.path == path {
			return r
		}
	}
	panic(refusal(404, "not_found"))
}

func formOf(q api.Request, query string) []api.Pair {
	said := query
	if q.Method == post {
		needForm(q.Fields, query)
		said = q.Body
	}
	form, err, _ := urlform.Parse(said)
	if err != api.OK {
		panic(refusal(400, invalidRequest))
	}
	return form
}

// needForm: what is posted says all that it says as a form in its body.
func needForm(fields []api.Pair, query string) {
	if query != "" {
		panic(refusal(400, invalidRequest))
	}
	kind, there := field(fields, typeName)
	if !there || http.Media(kind) != formType {
		panic(refusal(415, invalidRequest))
	}
}

// field is one that may be there once.
func field(fields []api.Pair, name string) (string, bool) {
	value, there, err := http.Field(fields, name)
	if err != api.OK {
		panic(refusal(400, invalidRequest))
	}
	return value, there
}

// parameter is one that may be there once.
func (v visit) parameter(name string) (string, bool) {
	value, there, err := urlform.One(v.form, name)
	if err != api.OK {
		panic(refusal(400, invalidRequest))
	}
	return value, there
}

// need is a parameter that must be there.
func (v visit) need(name string) string {
	value, there := v.parameter(name)
	if !there {
		panic(refusal(400, invalidRequest))
	}
	return value
}

// whole is the number from 1 up to most that said writes in its one way.
func whole(said string, most uint64) uint64 {
	n, ok := jtext.Uint(api.Json{Kind: api.JsonNumber, Text: said})
	if !ok || n < 1 || n > most {
		panic(refusal(400, invalidRequest))
	}
	return n
}

// client is the one that shows that it asks.
func (v visit) client() api.Client {
	header, _ := field(v.fields, "authorization")
	c, _, err := client.Authenticate(v.clients, header, v.form)
	switch {
	case err == api.OK:
	case err == api.ErrTwice:
		panic(refusal(400, invalidRequest))
	case header != "":
		panic(refusal(401, "invalid_client", api.Pair{Name: "www-authenticate", Value: `Basic realm="wicket"`}))
	default:
		panic(refusal(401, "invalid_client"))
	}
	return c
}

// subject is the one whose request it is.
func (v visit) subject() string {
	name, _ := field(v.fields, "user")
	if len(name) < 1 || len(name) > api.MaxName {
		panic(refusal(401, "login_required"))
	}
	return name
}
