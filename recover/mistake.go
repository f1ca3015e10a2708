package recover

import (
	"errors"
	"strconv"

	"hopper/api"
)

// mistake is an error's number as an error: inside, what goes wrong is passed up as one, and only the faces tell its number.
type mistake api.Errno

func (m mistake) Error() string { return "recover: error " + strconv.Itoa(int(m)) }

// refused is what a layer below has answered: nil, if it has refused nothing.
func refused(e api.Errno) error {
	if e == api.OK {
		return nil
	}
	return mistake(e)
}

// numberOf answers the number of the mistake that an error comes from. Of no error that is OK.
func numberOf(err error) api.Errno {
	var m mistake
	errors.As(err, &m)
	return api.Errno(m)
}
