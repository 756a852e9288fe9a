package contact

import (
	"slices"
	"strings"

	"cardcase/api"
	"cardcase/vcard"
)

const (
	behindGroup   = ":"
	betweenParams = ";"
	behindName    = "="

	// anyName is a name that a property may have, whatever its group and parameters are.
	anyName = "X"
)

// labelOf is the label of a group and parameters.
func labelOf(group string, params []api.Param) string {
	var l []string
	for _, q := range params {
		l = append(l, paramText(q))
	}
	slices.Sort(l)
	label := strings.Join(slices.Compact(l), betweenParams)
	if group != "" {
		label = group + behindGroup + label
	}
	return label
}

// paramText is a parameter as it stands in a line.
func paramText(q api.Param) string {
	if q.Name == "" {
		return q.Value
	}
	return q.Name + behindName + q.Value
}

// labelled is a property of a label's group and parameters, and nothing else; false: the label is none.
func labelled(label string) (api.Prop, bool) {
	group, list, grouped := strings.Cut(label, behindGroup)
	if !grouped {
		group, list = "", label
	}
	p := api.Prop{Group: group, Params: paramsOf(list)}
	// A group or a name that is empty, parameters out of order or twice: all these are written otherwise.
	if !mayBe(p) || labelOf(p.Group, p.Params) != label {
		return api.Prop{}, false
	}
	return p, true
}

// paramsOf are the parameters of a list; of one that is too long as many as are too many.
func paramsOf(list string) []api.Param {
	if list == "" {
		return nil
	}
	var params []api.Param
	for _, text := range strings.SplitN(list, betweenParams, api.MaxParams+1) {
		name, value, named := strings.Cut(text, behindName)
		if !named {
			name, value = "", text
		}
		params = append(params, api.Param{Name: name, Value: value})
	}
	return params
}

// mayBe tells whether a card may have a property with this one's group and parameters.
func mayBe(p api.Prop) bool {
	p.Name = anyName
	return vcard.Check(api.Card{Props: []api.Prop{p}}) == api.OK
}
