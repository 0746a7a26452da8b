package mem

import (
	"math/big"

	"gangway/api"
)

// model is a memory once more: bytes by their places, as far as they are no noughts, and sums of any size.
type model struct {
	pages, most int
	bytes       map[int]byte
}

func newModel(lim api.Limits, limit int) (*model, api.Errno) {
	if !(0 <= limit && limit <= 16) || !(lim.Min >= 0) || !(lim.Max == -1 || lim.Max >= lim.Min) {
		return nil, api.ErrForm
	}
	if lim.Min > limit {
		return nil, api.ErrNospc
	}
	most := limit
	if lim.Max != -1 && lim.Max < limit {
		most = lim.Max
	}
	return &model{lim.Min, most, map[int]byte{}}, api.OK
}

func sum(l ...int) *big.Int {
	s := new(big.Int)
	for _, n := range l {
		s.Add(s, big.NewInt(int64(n)))
	}
	return s
}

func (m *model) grow(n int) int {
	if n < 0 || sum(m.pages, n).Cmp(sum(m.most)) > 0 {
		return -1
	}
	m.pages += n
	return m.pages - n
}

// there tells whether the places at + offset, .. of n bytes all are below the memory's end.
func (m *model) there(at, offset, n int) bool {
	return n >= 0 && at >= 0 && offset >= 0 && sum(at, offset, n).Cmp(sum(m.pages*65536)) <= 0
}

func (m *model) asked(at, offset, n int) api.Errno {
	switch n {
	case 1, 2, 4, 8:
	default:
		return api.ErrForm
	}
	if at < 0 || at > 0xffffffff || offset < 0 || offset > 0xffffffff {
		return api.ErrForm
	}
	if !m.there(at, offset, n) {
		return api.ErrFault
	}
	return api.OK
}

func (m *model) load(at, offset, n int) (uint64, api.Errno) {
	if e := m.asked(at, offset, n); e != api.OK {
		return 0, e
	}
	v := uint64(0)
	for k := n - 1; k >= 0; k-- {
		v = v*256 + uint64(m.bytes[at+offset+k])
	}
	return v, api.OK
}

func (m *model) store(at, offset, n int, v uint64) api.Errno {
	if e := m.asked(at, offset, n); e != api.OK {
		return e
	}
	for k := range n {
		m.set(at+offset+k, byte(v%256))
		v /= 256
	}
	return api.OK
}

func (m *model) read(at, n int) ([]byte, api.Errno) {
	if !m.there(at, 0, n) {
		return nil, api.ErrFault
	}
	b := make([]byte, 0, n)
	for k := range n {
		b = append(b, m.bytes[at+k])
	}
	return b, api.OK
}

func (m *model) write(at int, b []byte) api.Errno {
	if !m.there(at, 0, len(b)) {
		return api.ErrFault
	}
	for k, x := range b {
		m.set(at+k, x)
	}
	return api.OK
}

func (m *model) set(at int, x byte) {
	delete(m.bytes, at)
	if x != 0 {
		m.bytes[at] = x
	}
}
