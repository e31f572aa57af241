package endpoint

import (
	"wicket/api"
	"wicket/http"
	"wicket/jtext"
)

const (
	typeName = "content-type"
	jsonType = "application/json"
)

// What is said of requests that several routes refuse.
const (
	invalidRequest = "invalid_request"
	invalidScope   = "invalid_scope"
	unauthorized   = "unauthorized_client"
)

// answer is what a request comes to.
type answer struct {
	status  int
	further []api.Pair
	object  api.Json
}

// member is one of an object.
type member struct {
	name  string
	value api.Json
}

func text(name, value string) member {
	return member{name: name, value: jtext.Text(value)}
}

func number(name string, value uint64) member {
	return member{name: name, value: jtext.Number(value)}
}

// texts is a member that is a list.
func texts(name string, values ...string) member {
	var items []api.Json
	for _, v := range values {
		items = append(items, jtext.Text(v))
	}
	return member{name: name, value: jtext.List(items...)}
}

func object(members ...member) api.Json {
	var names []string
	var items []api.Json
	for _, m := range members {
		names = append(names, m.name)
		items = append(items, m.value)
	}
	return jtext.Object(names, items...)
}

// granted is the answer to a request that is not refused.
func granted(members ...member) answer {
	return answer{status: 200, object: object(members...)}
}

// refusal is the answer with which a step gives up the request.
func refusal(status int, why string, further ...api.Pair) answer {
	return answer{status: status, further: further, object: object(text("error", why))}
}

// refused is the answer with which a request was given up. Where it was given up with anything else, that is not the asker's fault.
func refused(given any) answer {
	if a, ok := given.(answer); ok {
		return a
	}
	return refusal(500, "server_error")
}

// fault is an error of the engine, and how it is refused.
type fault struct {
	err    api.Errno
	status int
	why    string
}

// succeed gives up the request if there is an error: as the route says, and with the error itself if the route does not name it.
func succeed(err api.Errno, named ...fault) {
	for _, f := range named {
		if f.err == err {
			panic(refusal(f.status, f.why))
		}
	}
	if err != api.OK {
		panic(err)
	}
}

// response is the answer as it is sent.
func (a answer) response() string {
	body, err := jtext.Print(a.object)
	succeed(err)
	fields := []api.Pair{{Name: typeName, Value: jsonType}, {Name: "cache-control", Value: "no-store"}}
	raw, _ := http.PrintResponse(api.Response{Status: a.status, Fields: append(fields, a.further...), Body: body})
	return raw
}
