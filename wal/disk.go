package wal

import "conclave/api"

// Disk is two files.
type Disk struct {
	files   [2]file
	failing int  // which act from now on fails; 0: none does
	keep    int  // how many bytes stay then
	journal *Wal // the last one that was opened; nil, if that is over
}

// file: its bytes, and how many of them last, from the first one on.
type file struct {
	bytes   []byte
	lasting int
}

// NewDisk makes one (P9).
func NewDisk() *Disk { return &Disk{} }

// Break lets a later act fail (P9).
func (d *Disk) Break(k, keep int) api.Errno {
	if k < 0 {
		return api.ErrArg
	}
	d.failing, d.keep = k, keep
	return api.OK
}

// Crash loses what does not last (P9).
func (d *Disk) Crash(keep int) {
	for k := range d.files {
		d.files[k].crash(keep)
	}
	d.failing, d.keep = 0, 0
	d.endJournal()
}

// File tells what a file has (P9).
func (d *Disk) File(k int) (string, api.Errno) {
	if k != 0 && k != 1 {
		return "", api.ErrNone
	}
	return string(d.files[k].bytes), api.OK
}

// put is the act Append. Its bytes are there ahead of the answer, so that a crash can leave some of them.
func (d *Disk) put(k int, b []byte) bool {
	f := &d.files[k]
	f.bytes = append(f.bytes, b...)
	return d.act()
}

// sync is the act Sync.
func (d *Disk) sync(k int) bool {
	if !d.act() {
		return false
	}
	d.files[k].lasting = len(d.files[k].bytes)
	return true
}

// cut is the act Cut.
func (d *Disk) cut(k int) bool {
	if !d.act() {
		return false
	}
	d.files[k] = file{}
	return true
}

// act: does the act that is done now go well? If not, the disk has crashed.
func (d *Disk) act() bool {
	if d.failing == 0 {
		return true
	}
	d.failing--
	if d.failing > 0 {
		return true
	}
	d.Crash(d.keep)
	return false
}

// endJournal makes all journals over: those ahead of the last one are it already.
func (d *Disk) endJournal() {
	if d.journal != nil {
		*d.journal = Wal{}
	}
	d.journal = nil
}

func (f *file) crash(keep int) {
	stay := min(max(keep, 0), len(f.bytes)-f.lasting)
	f.shorten(f.lasting + stay)
	f.lasting = len(f.bytes)
}

func (f *file) shorten(n int) {
	f.bytes = f.bytes[:n]
	f.lasting = min(f.lasting, n)
}
