package journal

import (
	"errors"
	"strings"

	"storehouse/api"
	"storehouse/frame"
)

// title is the payload of a half's head.
const title = "journal"

// What of a record's layout counts here: its mark, what may stand in the mark's place where there is no record, and where its epoch and its payload begin.
const (
	mark      = "\x01"
	noMark    = "\x00"
	epochAt   = 12
	epochSize = 8
	payloadAt = 24
)

// fit is nil if records with these payloads may be, and want no more sectors than there is room.
func fit(room int, payloads ...string) error {
	want := 0
	for _, payload := range payloads {
		if len(payload) > api.MaxRecord {
			return fault(api.ErrArg)
		}
		want += (payloadAt + len(payload) + api.SectorSize - 1) / api.SectorSize
	}
	if want > room {
		return fault(api.ErrFull)
	}
	return nil
}

// packed is the records with these payloads, of an epoch, numbered from first on, one behind the other.
func packed(epoch, first int, payloads ...string) (string, error) {
	var all strings.Builder
	for i, payload := range payloads {
		record, err := frame.Pack(epoch, first+i, payload)
		if err != nil {
			return "", err
		}
		all.WriteString(record)
	}
	return all.String(), nil
}

// epochOf is the epoch of the half whose head this is; 0, if the half is not right.
func epochOf(head string) int {
	epoch := uint64(0)
	for i := range epochSize {
		epoch = epoch<<8 | uint64(head[epochAt+i])
	}
	if epoch > api.MaxEpoch {
		return 0
	}
	payload, _, err := frame.Unpack(head, int(epoch), 0)
	if errors.Is(err, api.ErrRecord) || payload != title {
		return 0
	}
	return int(epoch)
}

// recordsOf is the payloads of the records of an epoch, from the number 1 on, with which a text begins, and how many sectors they have.
func recordsOf(text string, epoch int) ([]string, int) {
	var payloads []string
	at := 0
	for {
		payload, size, err := frame.Unpack(text[at:], epoch, len(payloads)+1)
		if errors.Is(err, api.ErrRecord) {
			return payloads, at / api.SectorSize
		}
		payloads = append(payloads, payload)
		at += size
	}
}
