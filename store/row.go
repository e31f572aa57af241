package store

import (
	"strings"

	"wicket/api"
)

const (
	firstPrintable = 32
	lastPrintable  = 126
)

// isRow: section 12.1.
func isRow(p api.Pending) bool {
	switch {
	case p.Number == 0, p.Flow < api.FlowDevice, p.Flow > api.FlowPing:
		return false
	case p.Begun > p.Expiry, p.Interval == 0, !p.Asked && p.Polled != 0:
		return false
	case p.Status < api.StatusWaiting, p.Status > api.StatusTaken:
		return false
	}
	return areTexts(p) && isCode(p) && isNotify(p) && isPing(p)
}

// areTexts: are those right that do not hang on the flow?
func areTexts(p api.Pending) bool {
	switch {
	case p.Client == "", !isPrintable(p.Client, api.MaxName), len(p.Handle) != api.HandleSize:
		return false
	case !isPrintable(p.Scope, api.MaxScope), !isPrintable(p.Subject, api.MaxName):
		return false
	}
	return len(p.Message) <= api.MaxMessage
}

// isCode: is there one where there must be, and only there?
func isCode(p api.Pending) bool {
	if p.Flow != api.FlowDevice {
		return p.Code == ""
	}
	return len(p.Code) == api.CodeSize && allWithin(p.Code, 'A', 'Z')
}

// isNotify: is there one where there must be, and only there?
func isNotify(p api.Pending) bool {
	if p.Flow != api.FlowPing {
		return p.Notify == ""
	}
	return p.Notify != "" && isPrintable(p.Notify, api.MaxNotify)
}

// isPing: may the ping be so, in this flow?
func isPing(p api.Pending) bool {
	if p.Flow != api.FlowPing || p.Ping == api.PingNone {
		return p.Ping == api.PingNone && p.Tries == 0 && p.Due == 0
	}
	return p.Ping >= api.PingOwed && p.Ping <= api.PingGiven && p.Tries >= 0 && p.Tries <= api.MaxAttempts
}

// isPrintable: has s at most so many bytes, all of them printable?
func isPrintable(s string, most int) bool {
	return len(s) <= most && allWithin(s, firstPrintable, lastPrintable)
}

func allWithin(s string, first, last byte) bool {
	for i := range len(s) {
		if s[i] < first || s[i] > last {
			return false
		}
	}
	return true
}

// fixed is p without what may become another in its lifetime.
func fixed(p api.Pending) api.Pending {
	p.Subject = ""
	p.Interval, p.Polled, p.Asked = 0, 0, false
	p.Status, p.Ping, p.Tries, p.Due = 0, 0, 0, 0
	return p
}

// copied shares no memory with p, for what is kept and what is answered is new memory.
func copied(p api.Pending) api.Pending {
	p.Client, p.Handle, p.Code = strings.Clone(p.Client), strings.Clone(p.Handle), strings.Clone(p.Code)
	p.Scope, p.Subject = strings.Clone(p.Scope), strings.Clone(p.Subject)
	p.Message, p.Notify = strings.Clone(p.Message), strings.Clone(p.Notify)
	return p
}
