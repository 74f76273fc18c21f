// Package promises tests what holds everywhere: see ../shared/DOC.md.
package promises

import (
	"errors"
	"testing"

	"layercake/api"
	"layercake/plain"
)

// P5
func TestBounds(t *testing.T) {
	for name, c := range map[string][2]int{
		"MaxBytes": {api.MaxBytes, 300000}, "MaxCode": {api.MaxCode, 15}, "MaxSymbols": {api.MaxSymbols, 300},
		"MaxWindow": {api.MaxWindow, 32768}, "MaxMatch": {api.MaxMatch, 258}, "MinMatch": {api.MinMatch, 3},
		"MaxSide": {api.MaxSide, 256}, "Tile": {api.Tile, 16}, "MaxLayers": {api.MaxLayers, 8},
		"MaxName": {api.MaxName, 12}, "MaxColors": {api.MaxColors, 256}, "MaxFrames": {api.MaxFrames, 16},
		"MaxUndo": {api.MaxUndo, 20}, "Sector": {api.Sector, 64}, "MaxSectors": {api.MaxSectors, 4000},
		"MaxLines": {api.MaxLines, 100}, "Workers": {api.Workers, 16},
	} {
		if c[0] != c[1] {
			t.Errorf("%s is %d, want %d", name, c[0], c[1])
		}
	}
}

// P5
func TestErrors(t *testing.T) {
	texts := []string{"text", "bound", "shape", "sum", "name", "none", "colors", "full", "power"}
	for i, e := range []error{api.ErrText, api.ErrBound, api.ErrShape, api.ErrSum, api.ErrName, api.ErrNone, api.ErrColors, api.ErrFull, api.ErrPower} {
		if e.Error() != "layercake: "+texts[i] {
			t.Errorf("error %d: %q", i+1, e)
		}
		if code, at := plain.Code(e); code != i+1 || at != -1 {
			t.Errorf("%v: %d %d", e, code, at)
		}
		if code, at := plain.Code(&api.Fault{At: 7, Err: e}); code != i+1 || at != 7 {
			t.Errorf("%v with a place: %d %d", e, code, at)
		}
	}
	if code, at := plain.Code(nil); code != 0 || at != -1 {
		t.Errorf("nil: %d %d", code, at)
	}
	if code, at := plain.Code(errors.New("another one")); code != -1 || at != -1 {
		t.Errorf("another one: %d %d", code, at)
	}
}
