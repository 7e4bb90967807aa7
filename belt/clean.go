package belt

// cleaning is a belt at work whose trays are to be kept clean, up to some pieces.
type cleaning struct {
	work
	left Tray
}

// cleaning returns the belt with what may be left.
func (w work) cleaning(left Tray) cleaning { return cleaning{work: w, left: left} }

// job returns the job to take the needs of a tray.
func (c cleaning) job(tray int) job {
	need := func(m Material) int { return max(c.Trays[tray][m]-c.left[m], 0) }
	return job{work: c.work, tray: tray, wanted: need}
}

// keeps reports whether a tray can be kept clean.
func (c cleaning) keeps(tray int) bool { return c.job(tray).done() }

// clean reports whether all trays can be kept clean.
func (c cleaning) clean() bool { return all(indices(c.Trays), c.keeps) }

// indices returns those of a list.
func indices[T any](list []T) []int {
	numbers := make([]int, len(list))
	for i := range numbers {
		numbers[i] = i
	}
	return numbers
}
