package text

import (
	"strings"

	"shard/api"
)

// Width tells how many columns a string takes.
func Width(s string) int {
	cols := 0
	for p := range cut(s) {
		cols += pieceWidth(p)
	}
	return cols
}

func pieceWidth(p api.Piece) int {
	if p.Broken {
		return 1
	}
	switch kindOf(p.Rune) {
	case hidden, mark:
		return 0
	case wide:
		return 2
	}
	return 1
}

// Clip cuts a string to columns.
func Clip(s string, cols int) string {
	if cols < 0 {
		return ""
	}
	used := 0
	for p := range cut(s) {
		used += pieceWidth(p)
		if used > cols {
			return strings.Clone(s[:p.At])
		}
	}
	return strings.Clone(s)
}

// Pad fills a string up to columns: side 0 behind, 1 ahead, 2 on both sides.
func Pad(s string, cols int, side int) (string, api.Errno) {
	if side < 0 || side > 2 || cols < 0 || cols > api.MaxCols {
		return "", api.ErrArg
	}
	missing := max(0, cols-Width(s))
	ahead := 0
	switch side {
	case 1:
		ahead = missing
	case 2:
		ahead = missing / 2
	}
	var out strings.Builder
	writeBlanks(&out, ahead)
	out.WriteString(s)
	writeBlanks(&out, missing-ahead)
	return out.String(), api.OK
}

func writeBlanks(out *strings.Builder, count int) {
	for range count {
		out.WriteByte(' ')
	}
}

// Table lays rows of cells out in columns, and tells the first row that may not be.
func Table(rows [][]string) ([]string, int, api.Errno) {
	if len(rows) > api.MaxRows {
		return nil, 0, api.ErrWords
	}
	for i, row := range rows {
		if e := rowFault(row); e != api.OK {
			return nil, i, e
		}
	}
	widths := columnWidths(rows)
	lines := make([]string, len(rows))
	for i, row := range rows {
		lines[i] = tableLine(row, widths)
	}
	return lines, 0, api.OK
}

func rowFault(row []string) api.Errno {
	if len(row) > api.MaxCells {
		return api.ErrWords
	}
	for _, cell := range row {
		if e := cellFault(cell); e != api.OK {
			return e
		}
	}
	return api.OK
}

// cellFault looks at the whole cell ahead of telling of a hidden rune, for a broken byte behind it comes first.
func cellFault(cell string) api.Errno {
	cols, hides := 0, false
	for p := range cut(cell) {
		if p.Broken {
			return api.ErrBroken
		}
		hides = hides || !Plain(p.Rune)
		cols += pieceWidth(p)
	}
	switch {
	case hides:
		return api.ErrWord
	case cols > api.MaxCols:
		return api.ErrLong
	}
	return api.OK
}

func columnWidths(rows [][]string) [api.MaxCells]int {
	var widths [api.MaxCells]int
	for _, row := range rows {
		for j, cell := range row {
			widths[j] = max(widths[j], Width(cell))
		}
	}
	return widths
}

// tableLine leaves the last cell as it is, so that no line ends in blanks that no cell has.
func tableLine(row []string, widths [api.MaxCells]int) string {
	var line strings.Builder
	for j, cell := range row {
		line.WriteString(cell)
		if j < len(row)-1 {
			writeBlanks(&line, widths[j]-Width(cell)+2)
		}
	}
	return line.String()
}
