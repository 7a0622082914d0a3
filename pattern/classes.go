package pattern

// classes tells the classes by their names, each as a test of what is in it.
func classes() map[string]func(c byte) bool {
	return map[string]func(c byte) bool{
		"alpha":  isAlpha,
		"upper":  isUpper,
		"lower":  isLower,
		"digit":  isDigit,
		"alnum":  isAlnum,
		"xdigit": func(c byte) bool { return isDigit(c) || c >= 'A' && c <= 'F' || c >= 'a' && c <= 'f' },
		"space":  func(c byte) bool { return c >= 0x09 && c <= 0x0D || c == ' ' },
		"blank":  func(c byte) bool { return c == 0x09 || c == ' ' },
		"cntrl":  func(c byte) bool { return c <= 0x1F || c == 0x7F },
		"graph":  isGraph,
		"print":  func(c byte) bool { return c == ' ' || isGraph(c) },
		"punct":  func(c byte) bool { return isGraph(c) && !isAlnum(c) },
	}
}

func isUpper(c byte) bool { return c >= 'A' && c <= 'Z' }

func isLower(c byte) bool { return c >= 'a' && c <= 'z' }

func isAlpha(c byte) bool { return isUpper(c) || isLower(c) }

func isDigit(c byte) bool { return c >= '0' && c <= '9' }

func isAlnum(c byte) bool { return isAlpha(c) || isDigit(c) }

func isGraph(c byte) bool { return c >= 0x21 && c <= 0x7E }
