package past

// A second way, in the chapter's own words: two piles, of what can be undone and of what was undone, with now between them. The tests hold the package against it.
type slowPast struct {
	now         int
	back, forth []int // the next one stands first
	most        int
}

func slowNew(first, most int) *slowPast { return &slowPast{now: first, most: most} }

func (s *slowPast) do(x int) {
	s.back = append([]int{s.now}, s.back...)
	for len(s.back) > s.most {
		s.back = s.back[:len(s.back)-1]
	}
	s.now, s.forth = x, nil
}

func (s *slowPast) undo() bool {
	if len(s.back) == 0 {
		return false
	}
	s.forth = append([]int{s.now}, s.forth...)
	s.now, s.back = s.back[0], s.back[1:]
	return true
}

func (s *slowPast) redo() bool {
	if len(s.forth) == 0 {
		return false
	}
	s.back = append([]int{s.now}, s.back...)
	s.now, s.forth = s.forth[0], s.forth[1:]
	return true
}
