package recover

import (
	"errors"
	"fmt"
	"testing"

	"hopper/api"
)

// What is seen from within alone: mistakes are errors, which are looked for, however they are wrapped.

func TestMistakes(t *testing.T) {
	if err := refused(api.OK); err != nil {
		t.Error(err)
	}
	if e := numberOf(nil); e != api.OK {
		t.Error(e)
	}
	seen := map[string]api.Errno{}
	for _, e := range []api.Errno{api.ErrNone, api.ErrCorrupt, api.ErrRange, api.ErrLong, api.ErrDown} {
		err := refused(e)
		for range 3 {
			if numberOf(err) != e || !errors.Is(err, mistake(e)) || errors.Is(err, mistake(api.ErrSum)) {
				t.Error(err, e)
			}
			err = fmt.Errorf("wrapped: %w", err)
		}
		if other, there := seen[refused(e).Error()]; there {
			t.Error(e, "is told as", other)
		}
		seen[refused(e).Error()] = e
	}
}
