package ckpt

import (
	"strconv"
	"strings"

	"hopper/api"
	"hopper/disk"
	"hopper/frame"
)

const (
	manifestFile = "manifest"
	// newManifest is put in the place of manifestFile.
	newManifest = "manifest.new"
	// partPrefix is what the names of all parts begin with.
	partPrefix = "ckpt."
	// mostInName is what a greater number in a name counts as.
	mostInName = 1 << 40
	// mostMembers is how many parts and how many frames a manifest may tell.
	mostMembers = api.MaxItems * api.MaxItems
	// word is how many bytes a number takes.
	word = 8
)

// manifest says which parts are the checkpoint.
type manifest struct {
	number, parts, frames, epoch int
}

// bytes are a frame: that is never refused, as it is short.
func (m manifest) bytes() string {
	var body []byte
	for _, n := range [...]int{m.number, m.parts, m.frames, m.epoch} {
		body = appendNumber(body, uint64(n))
	}
	b, _ := frame.Frame(string(body))
	return b
}

// manifestOf answers false, if bytes are no manifest's.
func manifestOf(b string) (manifest, bool) {
	most := [...]uint64{api.MaxEpoch, mostMembers, mostMembers, api.MaxEpoch}
	body, end, f := frame.Unframe(b, 0)
	if f.Code != api.OK || end != len(b) || len(body) != len(most)*word {
		return manifest{}, false
	}
	var numbers [len(most)]int
	for at := range numbers {
		// Held against the most as it stands: as an int it might be below 0.
		n := numberAt(body, at)
		if n > most[at] {
			return manifest{}, false
		}
		numbers[at] = int(n)
	}
	return manifest{number: numbers[0], parts: numbers[1], frames: numbers[2], epoch: numbers[3]}, true
}

// appendNumber writes the lowest byte first.
func appendNumber(out []byte, n uint64) []byte {
	for range word {
		out = append(out, byte(n))
		n >>= 8
	}
	return out
}

// numberAt reads what appendNumber has written, behind so many other numbers.
func numberAt(b string, place int) uint64 {
	n := uint64(0)
	for at := range word {
		n |= uint64(b[place*word+at]) << (8 * at)
	}
	return n
}

func (m manifest) partName(part int) string {
	return partPrefix + strconv.Itoa(m.number) + "." + strconv.Itoa(part)
}

// nextNumber is one that no part is of: what is written is never put behind what another Write has left.
func nextNumber(d *disk.Disk) int {
	next := 0
	for _, name := range d.Names() {
		if number, isPart := numberIn(name); isPart {
			next = max(next, number+1)
		}
	}
	return next
}

// numberIn answers false, if a name is no part's.
func numberIn(name string) (int, bool) {
	rest, begins := strings.CutPrefix(name, partPrefix)
	// Without a point there are no digits behind it, either.
	number, part, _ := strings.Cut(rest, ".")
	if !begins || !areDigits(number) || !areDigits(part) {
		return 0, false
	}
	return countOf(number), true
}

func areDigits(s string) bool {
	for at := range len(s) {
		if s[at] < '0' || s[at] > '9' {
			return false
		}
	}
	return s != ""
}

// countOf takes the least at each digit, so that no number of digits is too great for an int.
func countOf(digits string) int {
	n := 0
	for at := range len(digits) {
		n = min(n*10+int(digits[at]-'0'), mostInName)
	}
	return n
}
