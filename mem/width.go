package mem

// loader tells what loads a number of n bytes from a place where they are; nil, if no number has so many.
func (m *Memory) loader(n int) func(at int) uint64 {
	switch n {
	case 1:
		return m.load1
	case 2:
		return m.load2
	case 4:
		return m.load4
	case 8:
		return m.load8
	}
	return nil
}

// storer tells what stores a number's low n bytes at a place where they are; nil, if no number has so many.
func (m *Memory) storer(n int) func(at int, v uint64) {
	switch n {
	case 1:
		return m.store1
	case 2:
		return m.store2
	case 4:
		return m.store4
	case 8:
		return m.store8
	}
	return nil
}

func (m *Memory) load1(at int) uint64 {
	return uint64(m.bytes[at])
}

// load2 and those of more bytes have the lower half first.
func (m *Memory) load2(at int) uint64 {
	return m.load1(at) | m.load1(at+1)<<8
}

func (m *Memory) load4(at int) uint64 {
	return m.load2(at) | m.load2(at+2)<<16
}

func (m *Memory) load8(at int) uint64 {
	return m.load4(at) | m.load4(at+4)<<32
}

func (m *Memory) store1(at int, v uint64) {
	m.bytes[at] = byte(v)
}

func (m *Memory) store2(at int, v uint64) {
	m.store1(at, v)
	m.store1(at+1, v>>8)
}

func (m *Memory) store4(at int, v uint64) {
	m.store2(at, v)
	m.store2(at+2, v>>16)
}

func (m *Memory) store8(at int, v uint64) {
	m.store4(at, v)
	m.store4(at+4, v>>32)
}
