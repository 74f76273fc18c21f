package store

import (
	"slices"
	"strings"

	"layercake/api"
)

// slow: a second way: what was put and dropped is kept in its order, and gone through from the last one on.
type slow struct {
	acts   []act
	isDark bool
}

type act struct {
	name, text string
	isDrop     bool
}

func (s *slow) copied() *slow { return &slow{acts: slices.Clone(s.acts)} }

func (s *slow) put(name, text string) error {
	_, err := s.get(name)
	switch {
	case s.isDark:
		return api.ErrPower
	case len(name) < 1 || len(name) > 12 || strings.Trim(name, "abcdefghijklmnopqrstuvwxyz0123456789") != "":
		return api.ErrName
	case len(text) > 300000 || err != nil && len(s.names()) >= 100:
		return api.ErrBound
	}
	s.acts = append(s.acts, act{name: name, text: text})
	return nil
}

func (s *slow) drop(name string) error {
	if s.isDark {
		return api.ErrPower
	}
	if _, err := s.get(name); err != nil {
		return err
	}
	s.acts = append(s.acts, act{name: name, isDrop: true})
	return nil
}

func (s *slow) get(name string) (string, error) {
	for _, a := range slices.Backward(s.acts) {
		if a.name == name && a.isDrop {
			break
		}
		if a.name == name {
			return a.text, nil
		}
	}
	return "", api.ErrNone
}

func (s *slow) names() []string {
	var l []string
	for _, a := range s.acts {
		if _, err := s.get(a.name); err == nil && !slices.Contains(l, a.name) {
			l = append(l, a.name)
		}
	}
	slices.Sort(l)
	return l
}

// need: what the chapter counts for a store's room.
func (s *slow) need() int {
	need := 64
	for _, n := range s.names() {
		text, _ := s.get(n)
		need += 32 + len(text)
	}
	return need
}

func (s *slow) shown() string {
	var b strings.Builder
	for _, n := range s.names() {
		text, _ := s.get(n)
		b.WriteString(n + "=" + text + "\n")
	}
	return b.String()
}
