package house

import (
	"math"
	"strings"

	"keyholder/seal"
)

// Commands that a house itself does, too, as it tells its text.
const (
	ask      = "ask"
	floors   = "floors"
	people   = "people"
	sessions = "sessions"
)

const (
	blank = " "
	// A ticket is one word of a line: its blanks are told so.
	blankOfTicket = "_"
)

// command is a form of lines, and what is done by a line that is made so.
type command struct {
	form string
	do   func(*inside, order) (string, error)
}

// order is what a line tells, beside its command.
type order struct {
	name, service, ticket string
	number                int
}

// changing are the commands whose lines are records.
func changing() []command {
	return []command{
		{"person NAME N", (*inside).person},
		{"service NAME N", (*inside).service},
		{"off NAME", (*inside).off},
		{"on NAME", (*inside).on},
		{"push", (*inside).push},
		{"login NAME N SERVICE", (*inside).login},
		{"renew TICKET SERVICE", (*inside).renew},
		{"revoke NAME", (*inside).revoke},
		{"rekey NAME N", (*inside).rekey},
		{"flush", (*inside).flush},
		{"tick N", (*inside).tick},
		{"enter SERVICE TICKET", (*inside).enter},
		{"sweep SERVICE", (*inside).sweep},
		{"close N", (*inside).close},
	}
}

// telling are the commands that change nothing.
func telling() []command {
	return []command{
		{ask + " N", (*inside).ask},
		{"prove NAME N", (*inside).prove},
		{sessions, (*inside).sessions},
		{people, (*inside).people},
		{floors + " SERVICE", (*inside).floors},
	}
}

// read a line: what it does; false: it is none of these commands'.
func read(list []command, line string) (func(*inside) (string, error), bool) {
	words := strings.Split(line, blank)
	for _, c := range list {
		if o, ok := fit(strings.Split(c.form, blank), words); ok {
			return func(i *inside) (string, error) { return c.do(i, o) }, true
		}
	}
	return nil, false
}

// fit the words of a line to those of a form.
func fit(form, words []string) (order, bool) {
	if len(words) != len(form) {
		return order{}, false
	}
	var o order
	for i, part := range form {
		if !o.take(part, words[i]) {
			return order{}, false
		}
	}
	return o, true
}

// take a word as what the form says it is: is it?
func (o *order) take(part, word string) bool {
	ok := true
	switch part {
	case "NAME":
		o.name = word
	case "SERVICE":
		o.service = word
	case "TICKET":
		o.ticket = strings.ReplaceAll(word, blankOfTicket, blank)
	case "N":
		// One that is too great is still a number: what is called tells its bound.
		o.number, ok = seal.Number(word, math.MaxInt)
	default:
		ok = word == part
	}
	return ok
}
