package hot

import (
	"errors"
	"slices"
	"strings"

	"annexe/api"
	"annexe/disk"
	"annexe/jread"
	"annexe/super"
)

// errAbsent is the error of reading a file that is not visible. It is none of
// the api, because the disk may fail with each of those.
var errAbsent = errors.New("the file is not visible")

// visible reports whether a path is one of a file.
func visible(d *disk.Disk, path string) bool {
	_, ok := d.Size(path)
	return ok
}

// read returns the contents of a file, or errAbsent.
func read(d *disk.Disk, path string) (string, error) {
	size, ok := d.Size(path)
	if !ok {
		return "", errAbsent
	}
	s, err := d.Read(path, 0, size)
	return s, failing(err)
}

// journalOf returns the contents of a file's journal, or errAbsent.
func journalOf(d *disk.Disk, file string) (jread.Journal, error) {
	s, err := read(d, Journal(file))
	if err != nil {
		return jread.Journal{}, err
	}
	return jread.Read(s), nil
}

// counts reports whether a journal makes its file Hot.
func counts(d *disk.Disk, j jread.Journal) bool {
	return j.Parts > 0 && (j.Super == "" || visible(d, j.Super))
}

// journals returns the files that have a journal.
func journals(d *disk.Disk) []string {
	var files []string
	for _, path := range d.Names() {
		file, ok := strings.CutSuffix(path, journalMark)
		if ok && file != "" {
			files = append(files, file)
		}
	}
	return files
}

// paths is a set of paths.
type paths map[string]struct{}

func (p paths) has(path string) bool {
	_, ok := p[path]
	return ok
}

// namedBy returns the super-journals that the journals of some files name.
// Files without a journal are permitted.
func namedBy(d *disk.Disk, files []string) (paths, error) {
	named := paths{}
	for _, file := range files {
		j, err := journalOf(d, file)
		if errors.Is(err, errAbsent) {
			continue
		}
		if err != nil {
			return nil, err
		}
		named[j.Super] = struct{}{}
	}
	return named, nil
}

// removable reports whether a path is that of a super-journal which is
// removable after a file has been restored.
func removable(d *disk.Disk, file, path string) (bool, error) {
	after, ok := Super(path)
	if !ok {
		return false, nil
	}
	s, err := read(d, path)
	if err != nil {
		return false, err
	}
	files, bad := super.Decode(s)
	if bad != api.OK {
		return after == file, nil
	}
	if !slices.Contains(files, file) {
		return false, nil
	}
	named, err := namedBy(d, files)
	return err == nil && !named.has(path), err
}

// removables returns the super-journals that are removable after a file has
// been restored.
func removables(d *disk.Disk, file string) ([]string, error) {
	var l []string
	for _, path := range d.Names() {
		ok, err := removable(d, file, path)
		if err != nil {
			return nil, err
		}
		if ok {
			l = append(l, path)
		}
	}
	return l, nil
}
