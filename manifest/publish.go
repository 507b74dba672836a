package manifest

import (
	"barograph/api"
	"barograph/disk"
)

const (
	// held is the file of the manifest that holds.
	held = "m"
	// fresh is the file of the one that is being published.
	fresh = "n"
)

// Publish makes a manifest the one that holds.
func Publish(d *disk.Disk, m Manifest) api.Errno {
	s, e := Encode(m)
	if e != api.OK {
		return e
	}
	// The bytes last ahead of the name's change: whichever of the changes a crash keeps, the file m has whole bytes.
	steps := []func() api.Errno{
		func() api.Errno { return removeFresh(d) },
		func() api.Errno { return d.Append(fresh, s) },
		func() api.Errno { return d.Sync(fresh) },
		func() api.Errno { return d.Rename(fresh, held) },
		d.SyncNames,
	}
	for _, step := range steps {
		if e := step(); e != api.OK {
			return e
		}
	}
	return api.OK
}

// removeFresh removes what an earlier publishing, cut short, has left.
func removeFresh(d *disk.Disk) api.Errno {
	if _, e := d.Read(fresh); e != api.OK {
		return api.OK
	}
	return d.Remove(fresh)
}

// Load is the manifest that holds.
func Load(d *disk.Disk) (Manifest, api.Errno) {
	s, e := d.Read(held)
	switch e {
	case api.OK:
		return Decode(s)
	case api.ErrNone:
		return None(), api.OK
	}
	return Manifest{}, e
}
