package lex

// behind returns where the bytes from at on that fit come to an end.
func behind(s string, at int, fits func(byte) bool) int {
	for at < len(s) && fits(s[at]) {
		at++
	}
	return at
}

func isSmall(c byte) bool {
	return 'a' <= c && c <= 'z'
}

func isDigit(c byte) bool {
	return '0' <= c && c <= '9'
}

func isInName(c byte) bool {
	return isSmall(c) || isDigit(c) || c == '_'
}

func isBase16(c byte) bool {
	return isDigit(c) || 'a' <= c && c <= 'f' || 'A' <= c && c <= 'F'
}

// isPlain tells the bytes that characters and strings have without an escape, but for those that may not stand by themselves.
func isPlain(c byte) bool {
	return 32 <= c && c <= 126
}

func isBlank(c byte) bool {
	return c == ' ' || c == '\t' || c == '\n'
}

// isInLine tells the bytes that a comment may have.
func isInLine(c byte) bool {
	return c != '\n'
}

// escaped returns what a letter behind a * stands for.
func escaped(letter byte) (c byte, ok bool) {
	switch letter {
	case 'n':
		return '\n', true
	case 't':
		return '\t', true
	case 's':
		return ' ', true
	case '*', '\'', '"':
		return letter, true
	}
	return 0, false
}

// escapeOf returns the letter of the escape that Quote writes for a byte.
func escapeOf(c byte) (letter byte, ok bool) {
	switch c {
	case '\n':
		return 'n', true
	case '\t':
		return 't', true
	case '*', '"':
		return c, true
	}
	return 0, false
}
