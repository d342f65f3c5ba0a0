package frame

import (
	"errors"
	"strings"

	"storehouse/api"
)

// How a record is laid down: its mark and three bytes, what its sum is of (its head), the sum, the payload.
const (
	mark      = 1
	headAt    = 4
	sumAt     = 20
	payloadAt = 24
)

// headOf is the 16 bytes that tell a payload's size, the number and the epoch.
func headOf(epoch, number, size int) (string, error) {
	if epoch < 0 || epoch > api.MaxEpoch || number < 0 || number > most32 || size > api.MaxRecord {
		return "", fault(api.ErrArg, 0)
	}
	return bytesOf(uint64(size), 4) + bytesOf(uint64(number), 4) + bytesOf(uint64(epoch), 8), nil
}

// sumOf is the sum of a head and a payload, as bytes.
func sumOf(head, payload string) string {
	return bytesOf(uint64(More(Sum(head), payload)), 4)
}

// wholeSize is how many bytes, in whole sectors, a record with so long a payload has.
func wholeSize(size int) int {
	return (payloadAt + size + api.SectorSize - 1) / api.SectorSize * api.SectorSize
}

// Pack is a record.
func Pack(epoch, number int, payload string) (string, error) {
	head, err := headOf(epoch, number, len(payload))
	if err != nil {
		return "", err
	}
	record := make([]byte, wholeSize(len(payload)))
	record[0] = mark
	copy(record[headAt:], head)
	copy(record[sumAt:], sumOf(head, payload))
	copy(record[payloadAt:], payload)
	return string(record), nil
}

// Unpack is what the record of an epoch and a number has with which s begins, and how many bytes it has there.
func Unpack(s string, epoch, number int) (string, int, error) {
	if len(s) < api.SectorSize || s[0] != mark {
		return "", 0, fault(api.ErrRecord, 0)
	}
	size := int(numberOf(s[headAt : headAt+4]))
	head, err := headOf(epoch, number, size)
	// Of an epoch, a number or a size that may not be there is no record.
	if errors.Is(err, api.ErrArg) || s[headAt:sumAt] != head || len(s) < wholeSize(size) {
		return "", 0, fault(api.ErrRecord, 0)
	}
	payload := s[payloadAt : payloadAt+size]
	if s[sumAt:payloadAt] != sumOf(head, payload) {
		return "", 0, fault(api.ErrRecord, 0)
	}
	return strings.Clone(payload), wholeSize(size), nil
}
