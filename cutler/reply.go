package cutler

import (
	"strconv"
	"strings"

	"bolster/api"
)

// reply is the lines with which a command replies, or its error.
type reply struct {
	text string
	e    api.Errno
}

// done is the reply of a command that replies nothing but an error.
func done(e api.Errno) reply { return reply{e: e} }

// join returns all lines of replies, or the first of their errors.
func join(replies ...reply) reply {
	var text strings.Builder
	for _, r := range replies {
		if r.e != api.OK {
			return r
		}
		text.WriteString(r.text)
	}
	return reply{text: text.String()}
}

// value is what lines consist of, after their first words.
type value interface{ int | string | api.Num }

// row is the first word of lines of values. (Its methods take what the functions of the
// layers return, and pass their errors on.)
type row[T value] string

// Rows of values.
type (
	numbers = row[int]
	texts   = row[string]
	nums    = row[api.Num]
)

// list returns a line of values.
func (name row[T]) list(values []T, e api.Errno) reply {
	var line strings.Builder
	line.WriteString(string(name))
	for _, v := range values {
		line.WriteString(" " + shown(v))
	}
	return reply{line.String() + "\n", e}
}

func (name row[T]) one(v T, e api.Errno) reply { return name.list([]T{v}, e) }

func (name row[T]) two(v, w T, e api.Errno) reply { return name.list([]T{v, w}, e) }

// each returns a line for each list of values.
func (name row[T]) each(lists [][]T, e api.Errno) reply {
	replies := []reply{done(e)}
	for _, values := range lists {
		replies = append(replies, name.list(values, api.OK))
	}
	return join(replies...)
}

// shown returns a value as a word.
func shown[T value](v T) string {
	switch v := any(v).(type) {
	case int:
		return strconv.Itoa(v)
	case api.Num:
		return string(v)
	case string:
		if v != "" {
			return v
		}
	}
	return "-"
}

// yesOrNo returns an answer as a word.
func yesOrNo(is bool, e api.Errno) (string, api.Errno) {
	if is {
		return "yes", e
	}
	return "no", e
}
