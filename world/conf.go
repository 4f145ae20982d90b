package world

import (
	"strings"

	"ullage/api"
	"ullage/digits"
	"ullage/float"
	"ullage/heap"
)

// names returns the names of a configuration's values, in the order of their lines.
func names() [8]string {
	return [8]string{"kind", "page", "block", "words", "slots", "stack", "ahead", "trigger"}
}

// value is how a value of a configuration is put into text and read from it.
type value struct {
	put  func(c *api.Config) string
	read func(c *api.Config, s string) api.Errno
}

// values returns a new map of the values by their names.
func values() map[string]value {
	return map[string]value{
		"kind":    {putKind, readKind},
		"page":    number(func(c *api.Config) *int { return &c.Page }),
		"block":   number(func(c *api.Config) *int { return &c.Block }),
		"words":   number(func(c *api.Config) *int { return &c.Words }),
		"slots":   number(func(c *api.Config) *int { return &c.Slots }),
		"stack":   number(func(c *api.Config) *int { return &c.Stack }),
		"ahead":   number(func(c *api.Config) *int { return &c.Ahead }),
		"trigger": {putTrigger, readTrigger},
	}
}

// number returns the value of an int.
func number(of func(c *api.Config) *int) value {
	return value{
		put: func(c *api.Config) string { return digits.PutInt(*of(c)) },
		read: func(c *api.Config, s string) api.Errno {
			n, e := digits.ReadInt(s)
			*of(c) = n
			return e
		},
	}
}

// kinds returns the names of the kinds of collectors.
func kinds() [4]string {
	return [4]string{api.Sliding: "sliding", api.Copying: "copying", api.Packing: "packing"}
}

func putKind(c *api.Config) string { return kinds()[c.Kind] }

func readKind(c *api.Config, s string) api.Errno {
	for kind, name := range kinds() {
		if name != "" && name == s {
			c.Kind = kind
			return api.OK
		}
	}
	return api.ErrConf
}

func putTrigger(c *api.Config) string { return float.Text(c.Trigger) }

func readTrigger(c *api.Config, s string) api.Errno {
	f, e := float.Read(s)
	c.Trigger = f
	return e
}

// PutConf returns the text of c.
func PutConf(c api.Config) (string, api.Errno) {
	if e := heap.Check(c); e != api.OK {
		return "", e
	}
	all := values()
	var text strings.Builder
	for _, name := range names() {
		text.WriteString(name + " " + all[name].put(&c) + "\n")
	}
	return text.String(), api.OK
}

// ReadConf returns the configuration that s describes, or the number of the first line that is wrong and its error.
func ReadConf(s string) (api.Config, int, api.Errno) {
	missing := values()
	var c api.Config
	for i, line := range digits.Lines(s) {
		fields := digits.Fields(line)
		if ignored(fields) {
			continue
		}
		v, ok := missing[fields[0]]
		if !ok || len(fields) != 2 {
			return api.Config{}, i + 1, api.ErrLine
		}
		if e := v.read(&c, fields[1]); e != api.OK {
			return api.Config{}, i + 1, e
		}
		delete(missing, fields[0])
	}
	if len(missing) > 0 {
		return api.Config{}, 0, api.ErrLine
	}
	if e := heap.Check(c); e != api.OK {
		return api.Config{}, 0, e
	}
	return c, 0, api.OK
}

// ignored reports whether a line with these fields is empty or a remark.
func ignored(fields []string) bool {
	return len(fields) == 0 || strings.HasPrefix(fields[0], "#")
}
