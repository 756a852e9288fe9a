package sample

import (
	"slices"

	"cardcase/api"
)

// Contact is one of names, labels and texts, one behind the other.
func Contact(l ...string) api.Contact {
	var c api.Contact
	for three := range slices.Chunk(l, 3) {
		c.Fields = append(c.Fields, api.Field{Name: three[0], Label: three[1], Text: three[2]})
	}
	return c
}

// Copy is a contact that shares no list with another.
func Copy(c api.Contact) api.Contact { return api.Contact{Fields: slices.Clone(c.Fields)} }
