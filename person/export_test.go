package person

// SetEpoch spares tests of the last epochs the many raises that lead there.
func (b *Book) SetEpoch(name string, epoch int) {
	p := b.people[name]
	p.Epoch = epoch
	b.people[name] = p
}
