package wal

import "tidewrack/api"

// done throws the error of a disk that did not do what it was told, so that nothing that was to come behind it is begun.
func done(e api.Errno) {
	if e != api.OK {
		panic(e)
	}
}

// caught tells what was thrown. A panic that done did not throw is a fault of the program: it isn't to pass for an answer of the disk.
func caught(do func()) (e api.Errno) {
	defer func() {
		switch thrown := recover().(type) {
		case nil:
		case api.Errno:
			e = thrown
		default:
			panic(thrown)
		}
	}()
	do()
	return api.OK
}
