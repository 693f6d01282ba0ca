package merge

// step is something that is done on a disk, as one of several.
type step func() error

// inTurn tries steps up to the first that fails: what comes behind it must not be done without it.
func inTurn(steps ...step) error {
	for _, s := range steps {
		if err := s(); err != nil {
			return err
		}
	}
	return nil
}

// toEach is the step that does one operation to several files, in turn.
func toEach(operation func(name string) error, names ...string) step {
	return func() error {
		for _, name := range names {
			if err := operation(name); err != nil {
				return err
			}
		}
		return nil
	}
}
