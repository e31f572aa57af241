package token

import (
	"strings"

	"wicket/api"
)

// kidMarks are what a Kid may have beside letters and digits.
const kidMarks = "-_."

// Rotate: P10.4.
func Rotate(keys []api.Key, k api.Key) ([]api.Key, api.Errno) {
	if ringFault(keys) != api.OK || !isKey(k) {
		return nil, api.ErrKey
	}
	if _, e := find(keys, k.Kid); e == api.OK {
		return nil, api.ErrThere
	}
	kept := keys[:min(len(keys), api.MaxKeys-1)]
	ring := make([]api.Key, 0, len(kept)+1)
	ring = append(ring, copied(k))
	for _, old := range kept {
		ring = append(ring, copied(old))
	}
	return ring, api.OK
}

// ringFault is ErrKey, if the keys are no ring or one of them is no key.
func ringFault(keys []api.Key) api.Errno {
	if len(keys) > api.MaxKeys {
		return api.ErrKey
	}
	for i, k := range keys {
		if !isKey(k) {
			return api.ErrKey
		}
		if _, e := find(keys[:i], k.Kid); e == api.OK {
			return api.ErrKey
		}
	}
	return api.OK
}

// find is the key with that Kid.
func find(keys []api.Key, kid string) (api.Key, api.Errno) {
	for _, k := range keys {
		if k.Kid == kid {
			return k, api.OK
		}
	}
	return api.Key{}, api.ErrKid
}

func isKey(k api.Key) bool {
	return isKid(k.Kid) && len(k.Secret) >= api.MinSecret && len(k.Secret) <= api.MaxSecret
}

func isKid(kid string) bool {
	if len(kid) < 1 || len(kid) > api.MaxKid {
		return false
	}
	for i := range len(kid) {
		if !isKidByte(kid[i]) {
			return false
		}
	}
	return true
}

func isKidByte(c byte) bool {
	return 'A' <= c && c <= 'Z' || 'a' <= c && c <= 'z' || '0' <= c && c <= '9' || strings.IndexByte(kidMarks, c) >= 0
}

// copied shares no memory with k, for what is answered is new memory.
func copied(k api.Key) api.Key {
	return api.Key{Kid: strings.Clone(k.Kid), Secret: strings.Clone(k.Secret)}
}
