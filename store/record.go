package store

import "turnpike/api"

// ahead: so many bytes of a record stand ahead of the text: the number's.
const ahead = 8

// Record: P7.4.
func Record(version int, text string) ([]byte, api.Errno) {
	if version < 1 || version > api.MaxVersions {
		return nil, api.ErrArg
	}
	if len(text) > api.MaxText {
		return nil, api.ErrLong
	}
	return recordOf(version, text), api.OK
}

// Read: P7.4.
func Read(record []byte) (int, string, api.Errno) {
	if len(record) < ahead || len(record) > ahead+api.MaxText {
		return 0, "", api.ErrStore
	}
	number := join([ahead]byte(record[:ahead]))
	if number < 1 || number > api.MaxVersions {
		return 0, "", api.ErrStore
	}
	return int(number), string(record[ahead:]), api.OK
}

// recordOf: the record of a version that may be.
func recordOf(number int, text string) []byte {
	front := split(uint64(number))
	record := make([]byte, 0, ahead+len(text))
	record = append(record, front[:]...)
	return append(record, text...)
}

func split(n uint64) (b [ahead]byte) {
	for i := range b {
		b[ahead-1-i] = byte(n >> (8 * i))
	}
	return b
}

func join(b [ahead]byte) uint64 {
	n := uint64(0)
	for _, x := range b {
		n = n<<8 | uint64(x)
	}
	return n
}
