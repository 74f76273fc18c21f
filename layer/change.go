package layer

import (
	"slices"

	"layercake/api"
)

const whole = 255 // the opacity that leaves pixels as they are

// Add a layer.
func Add(d Doc, l Layer) (Doc, error) {
	return changed(d, func(list []Layer) ([]Layer, error) { return append(list, l), nil })
}

// Remove a layer.
func Remove(d Doc, name string) (Doc, error) {
	return changedAt(d, name, func(list []Layer, at int) ([]Layer, error) {
		return slices.Delete(list, at, at+1), nil
	})
}

// Move a layer.
func Move(d Doc, name string, to int) (Doc, error) {
	return changedAt(d, name, func(list []Layer, at int) ([]Layer, error) {
		if to < 0 || to >= len(list) {
			return nil, api.ErrBound
		}
		l := list[at]
		return slices.Insert(slices.Delete(list, at, at+1), to, l), nil
	})
}

// Merge a layer with all below.
func Merge(d Doc, name string) (Doc, error) {
	return changedAt(d, name, func(list []Layer, at int) ([]Layer, error) {
		p := flat(Doc{d.Wide, d.High, list[:at+1]})
		return slices.Replace(list, 0, at+1, Layer{Name: name, Opacity: whole, P: p}), nil
	})
}

// changedAt the layer by that name.
func changedAt(d Doc, name string, change func(list []Layer, at int) ([]Layer, error)) (Doc, error) {
	return changed(d, func(list []Layer) ([]Layer, error) {
		at := numberOf(name, list)
		if at < 0 {
			return nil, api.ErrNone
		}
		return change(list, at)
	})
}

// changed: what change makes of the layers, of which it may write over the list, but not over their pixels. Copied at the end, so that no picture is shared with what was handed in.
func changed(d Doc, change func(list []Layer) ([]Layer, error)) (Doc, error) {
	if err := Check(d); err != nil {
		return Doc{}, err
	}
	list, err := change(slices.Clone(d.L))
	if err != nil {
		return Doc{}, err
	}
	d.L = list
	if err := Check(d); err != nil {
		return Doc{}, err
	}
	for i := range list {
		list[i].P.P = slices.Clone(list[i].P.P)
	}
	return d, nil
}
