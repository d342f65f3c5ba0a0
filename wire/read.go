package wire

import (
	"strings"

	"storehouse/api"
)

// maxChunkLine is how many bytes a chunk's line has at most, without its line feed.
const maxChunkLine = 200

// draft is what is held of a request that is not complete.
type draft struct {
	request api.Request // without its Body and Close
	head    int         // bytes of the lines of its head that have ended
	line    []byte      // the line, or line end, that is being read
	target  int         // bytes of the target that have come
	body    []byte
	left    int // bytes that are still to come: of the body, or of a chunk
}

// inMethod takes empty lines ahead of a request, and the first line up to its first blank.
func (r *Reader) inMethod(c byte) {
	if c == ' ' {
		r.next = r.inTarget
	}
	r.takeOfHead(c, r.endFirstLine)
}

// inTarget takes the first line from its first blank on to the second one.
func (r *Reader) inTarget(c byte) {
	if c == ' ' {
		r.next = r.inVersion
	} else if c != lineFeed {
		r.target++
	}
	r.takeOfHead(c, r.endFirstLine)
	if r.target > api.MaxTarget { // of a head that is refused nothing is left, so that FieldsLong stays
		r.refuse(api.TargetLong)
	}
}

// inVersion takes the first line behind its second blank.
func (r *Reader) inVersion(c byte) { r.takeOfHead(c, r.endFirstLine) }

// inField takes a field's line, and the empty one behind all fields.
func (r *Reader) inField(c byte) { r.takeOfHead(c, r.endField) }

// takeOfHead takes a byte of the head; end goes on behind the line, if it ends.
func (r *Reader) takeOfHead(c byte, end func(line string)) {
	switch {
	case r.head+len(r.line) == api.MaxHead:
		r.refuse(api.FieldsLong)
	case c == lineFeed:
		r.head += len(r.line) + 1
		end(r.endLine())
	default:
		r.line = append(r.line, c)
	}
}

// endLine is the line that was being read, without its end.
func (r *Reader) endLine() string {
	line := strings.TrimSuffix(string(r.line), "\r")
	r.line = nil
	return line
}

func (r *Reader) endFirstLine(line string) {
	if line == "" { // it is ahead of the first line, and so none of the head
		r.head = 0
		return
	}
	request, e := firstLine(line)
	if e != api.OK {
		r.refuse(e)
		return
	}
	r.request, r.next = request, r.inField
}

func (r *Reader) endField(line string) {
	if line == "" {
		r.endHead()
		return
	}
	field, ok := fieldOf(line)
	switch {
	case len(r.request.Fields) == api.MaxFields:
		r.refuse(api.FieldsLong)
	case !ok:
		r.refuse(api.BadField)
	default:
		r.request.Fields = append(r.request.Fields, field)
	}
}

func (r *Reader) endHead() {
	size, inChunks, e := bodyOf(r.request)
	switch {
	case e != api.OK:
		r.refuse(e)
	case inChunks:
		r.next = r.inChunkLine
	case size > 0:
		r.left, r.next = size, r.inBody
	default:
		r.finish()
	}
}

// inBody takes a body of which the length was told.
func (r *Reader) inBody(c byte) {
	if r.takeOfBody(c) {
		r.finish()
	}
}

// takeOfBody takes a byte of the body, or of a chunk, and tells whether it was the last one.
func (r *Reader) takeOfBody(c byte) bool {
	r.body = append(r.body, c)
	r.left--
	return r.left == 0
}

// inChunkLine takes the line ahead of a chunk.
func (r *Reader) inChunkLine(c byte) { r.takeOfChunkLine(c, r.endChunkLine) }

// inLastLine takes the line behind the last chunk.
func (r *Reader) inLastLine(c byte) { r.takeOfChunkLine(c, r.endLastLine) }

// takeOfChunkLine takes a byte of a line among the chunks; end goes on behind the line, if it ends.
func (r *Reader) takeOfChunkLine(c byte, end func(line string)) {
	switch {
	case c == lineFeed:
		end(r.endLine())
	case len(r.line) == maxChunkLine:
		r.refuse(api.BadChunk)
	default:
		r.line = append(r.line, c)
	}
}

func (r *Reader) endChunkLine(line string) {
	size, ok := chunkSize(line)
	switch {
	case !ok:
		r.refuse(api.BadChunk)
	case len(r.body)+size > api.MaxBody:
		r.refuse(api.BodyLong)
	case size == 0:
		r.next = r.inLastLine
	default:
		r.left, r.next = size, r.inChunk
	}
}

func (r *Reader) endLastLine(line string) {
	if line != "" {
		r.refuse(api.BadChunk)
		return
	}
	r.finish()
}

// inChunk takes a chunk's bytes.
func (r *Reader) inChunk(c byte) {
	if r.takeOfBody(c) {
		r.next = r.behindChunk
	}
}

// behindChunk takes the line end behind a chunk's bytes.
func (r *Reader) behindChunk(c byte) {
	switch {
	case c == lineFeed:
		r.line, r.next = nil, r.inChunkLine
	case c == '\r' && len(r.line) == 0:
		r.line = append(r.line, c)
	default:
		r.refuse(api.BadChunk)
	}
}

// finish tells the request, which is complete; behind it the next one may begin.
func (r *Reader) finish() {
	request := r.request
	request.Body, request.Close = string(r.body), closes(request)
	r.told = append(r.told, request)
	r.draft, r.next = draft{}, r.inMethod
	if request.Close {
		r.next = nil
	}
}

// refuse ends the reading with what is wrong.
func (r *Reader) refuse(e api.Errno) {
	r.fault, r.draft, r.next = e, draft{}, nil
}
