package disk

import "gangway/api"

// stroke is one of a history: a Write of b to sector i, or a Flush (i -1).
type stroke struct {
	i int
	b string
}

// model is a disk once more: the image that it began with, and all strokes; what it tells it works out of these anew.
type model struct {
	image    []string
	troubles []int
	strokes  []stroke
}

func newModel(image []byte, troubles []api.Trouble) (*model, api.Errno) {
	m := &model{}
	for len(image) >= 64 {
		m.image, image = append(m.image, string(image[:64])), image[64:]
	}
	if len(image) > 0 || len(m.image) == 0 || len(m.image) > 16384 {
		return nil, api.ErrForm
	}
	for _, t := range troubles {
		if !(t.At > 0) {
			return nil, api.ErrForm
		}
		m.troubles = append(m.troubles, t.At)
	}
	return m, api.OK
}

// troubled tells whether the nth stroke has a trouble.
func (m *model) troubled(n int) bool {
	for _, at := range m.troubles {
		if at == n {
			return true
		}
	}
	return false
}

// off tells the first stroke with a trouble; 0, if none has come.
func (m *model) off() int {
	for n := range m.strokes {
		if m.troubled(n + 1) {
			return n + 1
		}
	}
	return 0
}

// seen tells the bytes of sector i: those of the last Write of it that was done ahead of the nth stroke or by it.
func (m *model) seen(i, n int) string {
	for k := n; k > 0; k-- {
		if s := m.strokes[k-1]; s.i == i && (m.off() == 0 || k <= m.off()) {
			return s.b
		}
	}
	return m.image[i]
}

// safe tells the bytes of sector i that were seen at the last Flush that was done.
func (m *model) safe(i int) string {
	for k := len(m.strokes); k > 0; k-- {
		if s := m.strokes[k-1]; s.i == -1 && (m.off() == 0 || k < m.off()) {
			return m.seen(i, k)
		}
	}
	return m.image[i]
}

func (m *model) power() api.Errno {
	if m.off() != 0 {
		return api.ErrPower
	}
	return api.OK
}

func (m *model) write(i int, b []byte) api.Errno {
	if i < 0 || i > len(m.image)-1 || len(b) != 64 {
		return api.ErrForm
	}
	m.strokes = append(m.strokes, stroke{i, string(b)})
	return m.power()
}

func (m *model) flush() api.Errno {
	m.strokes = append(m.strokes, stroke{i: -1})
	return m.power()
}

func (m *model) read(i int) ([]byte, api.Errno) {
	if i < 0 || i > len(m.image)-1 {
		return nil, api.ErrForm
	}
	if e := m.power(); e != api.OK {
		return nil, e
	}
	return []byte(m.seen(i, len(m.strokes))), api.OK
}

// unsafe tells which sectors' safe and seen bytes are unlike.
func (m *model) unsafe() []int {
	var l []int
	for i := range m.image {
		if m.safe(i) != m.seen(i, len(m.strokes)) {
			l = append(l, i)
		}
	}
	return l
}

func (m *model) crash(picks []int) []byte {
	var found []string
	for i := range m.image {
		found = append(found, m.safe(i))
	}
	for k, i := range m.unsafe() {
		if k < len(picks) && picks[k]%2 != 0 {
			found[i] = m.seen(i, len(m.strokes))
		}
	}
	var image []byte
	for _, s := range found {
		image = append(image, s...)
	}
	return image
}
