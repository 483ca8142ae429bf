package realm

// SetSerial spares tests of the last serials the many tickets that lead there.
func (r *Realm) SetSerial(n int) { r.serial = n }

// SetEpoch spares tests of the last epochs the entries that lead there, for which no feed has room.
func (r *Realm) SetEpoch(name string, epoch int) {
	_, err := r.people.RaiseTo(name, epoch)
	if err != nil {
		panic(err)
	}
}
