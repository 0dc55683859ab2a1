package app

import (
	"cordon/api"
	"cordon/schema"
	"cordon/script"
	"cordon/syntax"
)

// Of what a note is.
const (
	partSchema = iota
	partScript
	partFlow
)

// readSchema looks a schema's text up; what is wrong with it is a note with an error. The number that layer 8 tells beside its own error is no place in the text, so it is left out.
func readSchema(text string) (*schema.Catalog, api.Note) {
	s, at, err := syntax.Schema(text)
	if err != api.OK {
		return nil, api.Note{Part: partSchema, At: at, Err: err}
	}
	c, _, err := schema.New(s)
	return c, api.Note{Part: partSchema, Err: err}
}

// readScript makes a script's text a program; what is wrong with it is a note with an error.
func readScript(c *schema.Catalog, text string) (api.Program, api.Note) {
	s, at, err := syntax.Script(text)
	if err != api.OK {
		return api.Program{}, api.Note{Part: partScript, At: at, Err: err}
	}
	p, at, err := script.Compile(c, s)
	return p, api.Note{Part: partScript, At: at, Err: err}
}
