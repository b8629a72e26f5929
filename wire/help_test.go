package wire_test

import (
	"encoding/binary"
	"fmt"
	"hash/crc32"
	"math/rand"
	"reflect"
	"regexp"
	"slices"
	"strconv"
	"strings"
	"testing"

	"shard/api"
	"shard/text"
	"shard/wire"
)

const most = 1<<64 - 1

// What follows says the chapter's tables and rules once more, in other words than the package.

var docWords = []string{"", "get", "set", "delete", "cas", "scan", "reply", "redirect", "shard", "done", "data", "ack", "delegate"}

var docStatuses = []string{"", "ok", "missing", "differs", "nocredit", "nobound", "notowner", "self", "nohost", "many", "queue"}

var docTable = []string{"", "Seq Key", "Seq Key Value", "Seq Key", "Seq Key Has Old Value", "Seq Key Hi Limit", "Seq Of Status", "Seq Key Hi Host", "Seq Key Hi Host Grant Bounds", "Seq Status", "Seq Payload", "Seq Mask", "Key Hi Grant Bounds Pairs Sessions"}

// docUses gives the names of the fields that m uses, as far as those that are there tell it.
func docUses(m api.Message) []string {
	uses := docTable[m.Kind]
	if m.Kind == api.KReply && m.Of == api.KGet && m.Status == api.StOK {
		uses += " Value"
	}
	if m.Kind == api.KReply && m.Of == api.KScan && m.Status != 0 {
		uses += " Hi Pairs"
	}
	if m.Kind == api.KCas && !m.Has {
		uses = strings.Replace(uses, "Old ", "", 1)
	}
	return strings.Fields(uses)
}

var docReplies = map[api.Kind][]api.Status{
	api.KGet:    {api.StOK, api.StMissing},
	api.KSet:    {api.StOK, api.StNoCredit},
	api.KDelete: {api.StOK, api.StMissing},
	api.KCas:    {api.StOK, api.StDiffers, api.StNoCredit},
	api.KScan:   {api.StOK},
}

var docDones = []api.Status{api.StOK, api.StNoCredit, api.StNoBound, api.StNotOwner, api.StSelf, api.StNoHost, api.StMany, api.StQueue}

var docKept = []api.Status{api.StOK, api.StMissing, api.StDiffers, api.StNoCredit}

// docFieldAllowed: the rules of fields for one that is used.
func docFieldAllowed(m api.Message, name string) bool {
	switch name {
	case "Seq":
		return m.Seq > 0 || m.Kind == api.KAck
	case "Hi":
		return m.Kind == api.KReply || m.Key <= m.Hi
	case "Value":
		return len(m.Value) <= 64
	case "Old":
		return len(m.Old) <= 64
	case "Limit":
		return m.Limit > 0 && m.Limit < 17
	case "Of":
		return docReplies[m.Of] != nil
	case "Status":
		if m.Kind == api.KDone {
			return slices.Contains(docDones, m.Status)
		}
		return slices.Contains(docReplies[m.Of], m.Status)
	case "Host":
		return m.Host < 16
	case "Grant":
		return m.Grant <= 65535
	case "Bounds":
		return m.Bounds <= 65535
	case "Payload":
		return len(m.Payload) > 0 && len(m.Payload) <= 3072
	case "Pairs":
		long := func(p api.Pair) bool { return len(p.Value) > 64 }
		return len(m.Pairs) <= docMostPairs(m.Kind) && !slices.ContainsFunc(m.Pairs, long)
	case "Sessions":
		bad := func(s api.Session) bool {
			return s.Client < 16 || s.Client > 31 || s.Seq == 0 || !slices.Contains(docKept, s.Status)
		}
		return len(m.Sessions) <= 16 && !slices.ContainsFunc(m.Sessions, bad)
	}
	return true
}

func docMostPairs(kind api.Kind) int {
	return map[api.Kind]int{api.KReply: 16, api.KDelegate: 32}[kind]
}

// docInOrder: the rules of order.
func docInOrder(m api.Message) bool {
	for i, p := range m.Pairs {
		if p.Key > m.Hi || m.Kind == api.KDelegate && p.Key < m.Key {
			return false
		}
		for _, q := range m.Pairs[:i] {
			if q.Key >= p.Key {
				return false
			}
		}
	}
	for i, s := range m.Sessions {
		for _, r := range m.Sessions[:i] {
			if r.Client >= s.Client {
				return false
			}
		}
	}
	return true
}

// docCheck is P3.4.
func docCheck(m api.Message) api.Errno {
	if m.Kind < 1 || m.Kind > 12 {
		return api.ErrKind
	}
	uses := docUses(m)
	v := reflect.ValueOf(m)
	for i := range v.NumField() {
		name, f := v.Type().Field(i).Name, v.Field(i)
		used := name == "Kind" || slices.Contains(uses, name)
		empty := f.IsZero() || f.Kind() == reflect.Slice && f.Len() == 0
		if !used && !empty || used && !docFieldAllowed(m, name) {
			return api.ErrField
		}
	}
	if !docInOrder(m) {
		return api.ErrOrder
	}
	return api.OK
}

func seal(b []byte) []byte {
	return binary.BigEndian.AppendUint32(slices.Clone(b), crc32.Checksum(b, crc32.MakeTable(crc32.Castagnoli)))
}

func appendBlock(b, block []byte) []byte {
	return append(binary.AppendUvarint(b, uint64(len(block))), block...)
}

// docMarshal gives the bytes of a message that may be.
func docMarshal(m api.Message) []byte {
	b := []byte{83, 1, byte(m.Kind)}
	for _, name := range docUses(m) {
		switch name {
		case "Seq":
			b = binary.AppendUvarint(b, m.Seq)
		case "Key":
			b = binary.BigEndian.AppendUint64(b, m.Key)
		case "Hi":
			if m.Kind == api.KReply {
				b = binary.BigEndian.AppendUint64(b, m.Hi)
			} else {
				b = binary.AppendUvarint(b, m.Hi-m.Key)
			}
		case "Value":
			b = appendBlock(b, m.Value)
		case "Has":
			b = append(b, map[bool]byte{true: 1}[m.Has])
		case "Old":
			b = appendBlock(b, m.Old)
		case "Limit":
			b = append(b, m.Limit)
		case "Of":
			b = append(b, byte(m.Of))
		case "Status":
			b = append(b, byte(m.Status))
		case "Host":
			b = append(b, byte(m.Host))
		case "Grant":
			b = binary.AppendUvarint(b, uint64(m.Grant))
		case "Bounds":
			b = binary.AppendUvarint(b, uint64(m.Bounds))
		case "Mask":
			b = binary.BigEndian.AppendUint64(b, m.Mask)
		case "Payload":
			b = appendBlock(b, m.Payload)
		case "Pairs":
			b = docPairs(b, m)
		case "Sessions":
			b = append(b, byte(len(m.Sessions)))
			for _, s := range m.Sessions {
				b = append(binary.AppendUvarint(append(b, byte(s.Client)), s.Seq), byte(s.Status))
			}
		}
	}
	return seal(b)
}

func docPairs(b []byte, m api.Message) []byte {
	b = append(b, byte(len(m.Pairs)))
	for i, p := range m.Pairs {
		gap := p.Key
		if i > 0 {
			gap = p.Key - m.Pairs[i-1].Key - 1
		} else if m.Kind == api.KDelegate {
			gap = p.Key - m.Key
		}
		b = appendBlock(binary.AppendUvarint(b, gap), p.Value)
	}
	return b
}

// docBody is the body of a packet, of which at bytes are taken.
type docBody struct {
	b  []byte
	at int
}

func (d *docBody) number(size int) (x uint64, ok bool) {
	if len(d.b)-d.at < size {
		return 0, false
	}
	for range size {
		x = x*256 + uint64(d.b[d.at])
		d.at++
	}
	return x, true
}

// varint: what binary.Uvarint takes, less what is padded.
func (d *docBody) varint() (uint64, bool) {
	x, n := binary.Uvarint(d.b[d.at:])
	if n <= 0 || n > 1 && d.b[d.at+n-1] == 0 {
		return 0, false
	}
	d.at += n
	return x, true
}

func (d *docBody) block(most uint64) ([]byte, bool) {
	size, ok := d.varint()
	if !ok || size > most || size > uint64(len(d.b)-d.at) {
		return nil, false
	}
	d.at += int(size)
	return d.b[d.at-int(size) : d.at], true
}

// docParse is P3.6.
func docParse(b []byte) (api.Message, int, api.Errno) {
	var none api.Message
	end := len(b) - 4
	switch {
	case len(b) > 4096:
		return none, 0, api.ErrBig
	case len(b) < 7:
		return none, len(b), api.ErrShape
	case b[0] != 83:
		return none, 0, api.ErrMagic
	case b[1] != 1:
		return none, 1, api.ErrVersion
	case !slices.Equal(seal(b[:end]), b):
		return none, end, api.ErrSum
	case b[2] < 1 || b[2] > 12:
		return none, 2, api.ErrKind
	}
	m := api.Message{Kind: api.Kind(b[2])}
	d := &docBody{b[:end], 3}
	for i := 0; i < len(docUses(m)); i++ {
		name := docUses(m)[i]
		begin := d.at
		e := docTake(d, &m, name, &begin)
		if e != api.OK {
			return none, begin, e
		}
	}
	if d.at < end {
		return none, d.at, api.ErrShape
	}
	return m, 0, api.OK
}

// docTake takes a field; at a fault begin is where the one at fault begins.
func docTake(d *docBody, m *api.Message, name string, begin *int) api.Errno {
	ok, wide := true, false
	var x uint64
	switch name {
	case "Seq":
		m.Seq, ok = d.varint()
	case "Key":
		m.Key, ok = d.number(8)
	case "Mask":
		m.Mask, ok = d.number(8)
	case "Hi":
		if m.Kind == api.KReply {
			m.Hi, ok = d.number(8)
		} else {
			x, ok = d.varint()
			m.Hi = m.Key + x
			wide = m.Hi < m.Key
		}
	case "Grant":
		x, ok = d.varint()
		m.Grant, wide = uint32(x), x > 65535
	case "Bounds":
		x, ok = d.varint()
		m.Bounds, wide = uint32(x), x > 65535
	case "Value":
		m.Value, ok = d.block(64)
	case "Old":
		m.Old, ok = d.block(64)
	case "Payload":
		m.Payload, ok = d.block(3072)
	case "Has":
		x, ok = d.number(1)
		m.Has, ok = x == 1, ok && x < 2
	case "Limit":
		x, ok = d.number(1)
		m.Limit = uint8(x)
	case "Of":
		x, ok = d.number(1)
		m.Of = api.Kind(x)
	case "Status":
		x, ok = d.number(1)
		m.Status = api.Status(x)
	case "Host":
		x, ok = d.number(1)
		m.Host = api.Addr(x)
	case "Pairs":
		return docTakePairs(d, m, begin)
	case "Sessions":
		return docTakeSessions(d, m, begin)
	}
	if !ok {
		return api.ErrShape
	}
	if wide || !docFieldAllowed(*m, name) {
		return api.ErrField
	}
	return api.OK
}

func docTakePairs(d *docBody, m *api.Message, begin *int) api.Errno {
	n, ok := d.varint()
	if !ok || n > uint64(docMostPairs(m.Kind)) {
		return api.ErrShape
	}
	for i := range n {
		var p api.Pair
		*begin = d.at
		gap, ok := d.varint()
		if !ok {
			return api.ErrShape
		}
		base := m.Key
		if i > 0 {
			base = m.Pairs[i-1].Key
			if base == most {
				return api.ErrOrder
			}
			base++
		}
		p.Key = base + gap
		if p.Key < base || p.Key > m.Hi {
			return api.ErrOrder
		}
		*begin = d.at
		if p.Value, ok = d.block(64); !ok {
			return api.ErrShape
		}
		m.Pairs = append(m.Pairs, p)
	}
	return api.OK
}

func docTakeSessions(d *docBody, m *api.Message, begin *int) api.Errno {
	n, ok := d.varint()
	if !ok || n > 16 {
		return api.ErrShape
	}
	for i := range n {
		var s api.Session
		*begin = d.at
		client, ok := d.number(1)
		if !ok {
			return api.ErrShape
		}
		if client < 16 || client > 31 {
			return api.ErrField
		}
		s.Client = api.Addr(client)
		if i > 0 && s.Client <= m.Sessions[i-1].Client {
			return api.ErrOrder
		}
		*begin = d.at
		if s.Seq, ok = d.varint(); !ok {
			return api.ErrShape
		}
		if s.Seq == 0 {
			return api.ErrField
		}
		*begin = d.at
		said, ok := d.number(1)
		if !ok {
			return api.ErrShape
		}
		s.Status = api.Status(said)
		if !slices.Contains(docKept, s.Status) {
			return api.ErrField
		}
		m.Sessions = append(m.Sessions, s)
	}
	return api.OK
}

// docPrint gives the line of a message that may be.
func docPrint(m api.Message) string {
	line := docWords[m.Kind]
	for _, name := range docUses(m) {
		line += docPrintField(m, name)
	}
	return line
}

func docPrintField(m api.Message, name string) string {
	switch name {
	case "Seq":
		return fmt.Sprintf(" seq=%d", m.Seq)
	case "Key":
		return fmt.Sprintf(" key=%d", m.Key)
	case "Hi":
		return fmt.Sprintf(" hi=%d", m.Hi)
	case "Host":
		return fmt.Sprintf(" host=%d", m.Host)
	case "Grant":
		return fmt.Sprintf(" grant=%d", m.Grant)
	case "Bounds":
		return fmt.Sprintf(" bounds=%d", m.Bounds)
	case "Limit":
		return fmt.Sprintf(" limit=%d", m.Limit)
	case "Mask":
		return fmt.Sprintf(" mask=0x%016x", m.Mask)
	case "Value":
		return " value=" + text.Quote(string(m.Value))
	case "Payload":
		return " payload=" + text.Quote(string(m.Payload))
	case "Has":
		if !m.Has {
			return " old=none"
		}
	case "Old":
		return " old=" + text.Quote(string(m.Old))
	case "Of":
		return " of=" + docWords[m.Of]
	case "Status":
		return " status=" + docStatuses[m.Status]
	case "Pairs":
		var l []string
		for _, p := range m.Pairs {
			l = append(l, fmt.Sprintf("%d:%s", p.Key, text.Quote(string(p.Value))))
		}
		return " pairs=[" + strings.Join(l, ",") + "]"
	case "Sessions":
		var l []string
		for _, s := range m.Sessions {
			l = append(l, fmt.Sprintf("%d:%d:%s", s.Client, s.Seq, docStatuses[s.Status]))
		}
		return " sessions=[" + strings.Join(l, ",") + "]"
	}
	return ""
}

const (
	exNumber = `([0-9]+)`
	exWord   = `([a-z]+)`
	exQuoted = `("(?:[^"\\]|(?s:\\.))*")`
)

// docShapes: how the text of each field looks, as P3.10 says.
var docShapes = map[string]*regexp.Regexp{}

func init() {
	const pair, session = `[0-9]+:"(?:[^"\\]|(?s:\\.))*"`, `[0-9]+:[0-9]+:[a-z]+`
	for name, ex := range map[string]string{
		"Seq": " seq=" + exNumber, "Key": " key=" + exNumber, "Hi": " hi=" + exNumber, "Host": " host=" + exNumber,
		"Grant": " grant=" + exNumber, "Bounds": " bounds=" + exNumber, "Limit": " limit=" + exNumber,
		"Mask": " mask=0x([0-9a-f]+)", "Of": " of=" + exWord, "Status": " status=" + exWord,
		"Value": " value=" + exQuoted, "Payload": " payload=" + exQuoted, "Old": " old=(?:none|" + exQuoted + ")",
		"Pairs":    ` pairs=(\[\]|\[` + pair + `(?:,` + pair + `)*\])`,
		"Sessions": ` sessions=(\[\]|\[` + session + `(?:,` + session + `)*\])`,
	} {
		docShapes[name] = regexp.MustCompile("^" + ex)
	}
}

// docRead is P3.10: the shape of each field first, then what it says, then whether it is printed so.
// Lines that are no UTF-8 are not for it: a regular expression cuts them in another way.
func docRead(line string) (api.Message, int, api.Errno) {
	word := regexp.MustCompile("^[a-z]*").FindString(line)
	kind := slices.Index(docWords, word)
	if kind < 1 {
		return api.Message{}, 0, api.ErrPrint
	}
	m := api.Message{Kind: api.Kind(kind)}
	at := len(word)
	for i := 0; i < len(docUses(m)); i++ {
		name := docUses(m)[i]
		if name == "Has" { // one field with Old
			m.Has = true
			continue
		}
		found := docShapes[name].FindStringSubmatch(line[at:])
		if found == nil || !docSays(&m, name, found[1]) || !docFieldAllowed(m, name) || !docInOrder(m) {
			return api.Message{}, at, api.ErrPrint
		}
		printed := docPrintField(m, name)
		if name == "Old" && !m.Has {
			printed = docPrintField(m, "Has")
			i-- // the list of what is used has lost an element
		}
		if printed != found[0] {
			return api.Message{}, at, api.ErrPrint
		}
		at += len(found[0])
	}
	if at < len(line) {
		return api.Message{}, at, api.ErrPrint
	}
	return m, 0, api.OK
}

// docSays puts what a text says into m, if a field of that name can hold it.
func docSays(m *api.Message, name, s string) bool {
	bits := map[string]int{"Limit": 8, "Host": 8, "Grant": 32, "Bounds": 32}
	switch name {
	case "Seq", "Key", "Hi", "Host", "Grant", "Bounds", "Limit":
		size := 64
		if bits[name] > 0 {
			size = bits[name]
		}
		x, err := strconv.ParseUint(s, 10, size)
		reflect.ValueOf(m).Elem().FieldByName(name).SetUint(x)
		return err == nil
	case "Mask":
		x, err := strconv.ParseUint(s, 16, 64)
		m.Mask = x
		return err == nil
	case "Of":
		m.Of = api.Kind(max(0, slices.Index(docWords, s)))
	case "Status":
		m.Status = api.Status(max(0, slices.Index(docStatuses, s)))
	case "Value", "Payload", "Old":
		if name == "Old" && s == "" {
			m.Has = false
			return true
		}
		b, _, e := text.Unquote(s)
		reflect.ValueOf(m).Elem().FieldByName(name).SetBytes([]byte(b))
		return e == api.OK
	case "Pairs":
		for _, f := range regexp.MustCompile(exNumber+":"+exQuoted).FindAllStringSubmatch(s, -1) {
			k, err := strconv.ParseUint(f[1], 10, 64)
			v, _, e := text.Unquote(f[2])
			if err != nil || e != api.OK {
				return false
			}
			m.Pairs = append(m.Pairs, api.Pair{Key: k, Value: []byte(v)})
		}
	case "Sessions":
		for _, f := range regexp.MustCompile(exNumber+":"+exNumber+":"+exWord).FindAllStringSubmatch(s, -1) {
			c, err := strconv.ParseUint(f[1], 10, 8)
			q, err2 := strconv.ParseUint(f[2], 10, 64)
			if err != nil || err2 != nil {
				return false
			}
			m.Sessions = append(m.Sessions, api.Session{Client: api.Addr(c), Seq: q, Status: api.Status(max(0, slices.Index(docStatuses, f[3])))})
		}
	}
	return true
}

// alike tells whether two messages are the same, empty lists nil or not.
func alike(a, b api.Message) bool { return reflect.DeepEqual(flat(a), flat(b)) }

func flat(m api.Message) api.Message {
	cut := func(b []byte) []byte { return append([]byte(nil), b...) }
	m.Value, m.Old, m.Payload = cut(m.Value), cut(m.Old), cut(m.Payload)
	m.Sessions = append([]api.Session(nil), m.Sessions...)
	m.Pairs = append([]api.Pair(nil), m.Pairs...)
	for i := range m.Pairs {
		m.Pairs[i].Value = cut(m.Pairs[i].Value)
	}
	return m
}

func isZero(m api.Message) bool { return alike(m, api.Message{}) }

func marshal(t *testing.T, m api.Message) []byte {
	t.Helper()
	b, e := wire.Marshal(m)
	if e != api.OK {
		t.Fatalf("Marshal(%+v): %v", m, e)
	}
	return b
}

func print(t *testing.T, m api.Message) string {
	t.Helper()
	s, e := wire.Print(m)
	if e != api.OK {
		t.Fatalf("Print(%+v): %v", m, e)
	}
	return s
}

func bytesOf(n int) []byte {
	b := make([]byte, n)
	for i := range b {
		b[i] = byte(i*37 + n)
	}
	return b
}

// numbers are edges of a number of 64 bits.
var numbers = []uint64{0, 1, 2, 9, 10, 127, 128, 255, 256, 16383, 16384, 65535, 65536, 1 << 32, 1<<56 - 1, 1 << 63, most - 1, most}

func randomNumber(rnd *rand.Rand) uint64 {
	switch rnd.Intn(3) {
	case 0:
		return numbers[rnd.Intn(len(numbers))]
	case 1:
		return uint64(rnd.Intn(40))
	}
	return rnd.Uint64() >> rnd.Intn(64)
}

func randomBytes(rnd *rand.Rand, longest int) []byte {
	sizes := []int{0, 1, 2, 3, longest - 1, longest, rnd.Intn(longest + 1)}
	b := make([]byte, sizes[rnd.Intn(len(sizes))])
	alphabet := []byte("ab\"\\\n\x00\x7f\xc3\xa9\xff \t:,]")
	for i := range b {
		b[i] = alphabet[rnd.Intn(len(alphabet))]
	}
	return b
}

func pick[T any](rnd *rand.Rand, l []T) T { return l[rnd.Intn(len(l))] }

// randomMessage is a message of a kind that the rules allow.
func randomMessage(rnd *rand.Rand, kind api.Kind) api.Message {
	m := api.Message{Kind: kind}
	for i := 0; i < len(docUses(m)); i++ {
		switch docUses(m)[i] {
		case "Seq":
			m.Seq = max(1, randomNumber(rnd))
		case "Key":
			m.Key = randomNumber(rnd)
		case "Hi":
			m.Hi = max(m.Key, randomNumber(rnd))
		case "Mask":
			m.Mask = randomNumber(rnd)
		case "Value":
			m.Value = randomBytes(rnd, 64)
		case "Has":
			m.Has = rnd.Intn(3) > 0
		case "Old":
			m.Old = randomBytes(rnd, 64)
		case "Payload":
			m.Payload = append(randomBytes(rnd, pick(rnd, []int{4, 200, 3071})), 's')
		case "Limit":
			m.Limit = uint8(1 + rnd.Intn(16))
		case "Of":
			m.Of = api.Kind(1 + rnd.Intn(5))
		case "Status":
			m.Status = pick(rnd, docDones)
			if kind == api.KReply {
				m.Status = pick(rnd, docReplies[m.Of])
			}
		case "Host":
			m.Host = api.Addr(rnd.Intn(16))
		case "Grant":
			m.Grant = uint32(randomNumber(rnd) % 65536)
		case "Bounds":
			m.Bounds = uint32(randomNumber(rnd) % 65536)
		case "Pairs":
			m.Pairs = randomPairs(rnd, m)
		case "Sessions":
			for c := api.Addr(16); c < 32; c++ {
				if rnd.Intn(4) == 0 {
					m.Sessions = append(m.Sessions, api.Session{Client: c, Seq: max(1, randomNumber(rnd)), Status: pick(rnd, docKept)})
				}
			}
		}
	}
	return m
}

func randomPairs(rnd *rand.Rand, m api.Message) []api.Pair {
	keys := map[uint64]bool{}
	for range rnd.Intn(docMostPairs(m.Kind) + 1) {
		k := pick(rnd, []uint64{m.Key, m.Hi, m.Key + randomNumber(rnd)%8, m.Hi - randomNumber(rnd)%8, rnd.Uint64(), randomNumber(rnd)})
		if k >= m.Key && k <= m.Hi {
			keys[k] = true
		}
	}
	var out []api.Pair
	for k := range keys {
		out = append(out, api.Pair{Key: k})
	}
	slices.SortFunc(out, func(a, b api.Pair) int {
		if a.Key < b.Key {
			return -1
		}
		return 1
	})
	for i := range out {
		out[i].Value = randomBytes(rnd, pick(rnd, []int{4, 4, 64}))
	}
	return out
}

// widest are messages with as many bytes as may be.
func widest() []api.Message {
	var pairs []api.Pair
	var sessions []api.Session
	for i := range uint64(32) {
		pairs = append(pairs, api.Pair{Key: i << 59, Value: bytesOf(64)})
	}
	for c := range api.Addr(16) {
		sessions = append(sessions, api.Session{Client: 16 + c, Seq: most, Status: api.StNoCredit})
	}
	return []api.Message{
		{Kind: api.KDelegate, Hi: most, Grant: 65535, Bounds: 65535, Pairs: pairs, Sessions: sessions},
		{Kind: api.KReply, Seq: most, Of: api.KScan, Status: api.StOK, Hi: most, Pairs: pairs[:16]},
		{Kind: api.KData, Seq: most, Payload: bytesOf(3072)},
		{Kind: api.KCas, Seq: most, Key: most, Has: true, Old: bytesOf(64), Value: bytesOf(64)},
	}
}

// samples are messages of each kind that may be, edges among them.
func samples(rnd *rand.Rand, n int) []api.Message {
	out := widest()
	for range n {
		for kind := api.KGet; kind <= api.KDelegate; kind++ {
			out = append(out, randomMessage(rnd, kind))
		}
	}
	return out
}
