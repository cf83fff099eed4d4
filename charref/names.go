package charref

// loose is the number of the character of a name that needs no semicolon; 0, if it is none.
func loose(name string) int {
	switch name {
	case "amp", "AMP":
		return 38
	case "lt", "LT":
		return 60
	case "gt", "GT":
		return 62
	case "quot", "QUOT":
		return 34
	case "nbsp":
		return 160
	case "copy":
		return 169
	case "reg":
		return 174
	case "shy":
		return 173
	case "para":
		return 182
	case "sect":
		return 167
	case "times":
		return 215
	case "divide":
		return 247
	case "micro":
		return 181
	case "middot":
		return 183
	case "not":
		return 172
	case "deg":
		return 176
	case "yen":
		return 165
	case "cent":
		return 162
	case "pound":
		return 163
	case "laquo":
		return 171
	case "raquo":
		return 187
	}
	return 0
}

// sign is the number of the character of ASCII whose name needs its semicolon, told without it; 0, if it is none.
func sign(name string) int {
	switch name {
	case "apos":
		return 39
	case "colon":
		return 58
	case "Tab":
		return 9
	case "NewLine":
		return 10
	case "lpar":
		return 40
	case "rpar":
		return 41
	case "sol":
		return 47
	case "num":
		return 35
	case "semi":
		return 59
	case "equals":
		return 61
	case "excl":
		return 33
	case "commat":
		return 64
	case "quest":
		return 63
	case "comma":
		return 44
	case "period":
		return 46
	case "lbrace":
		return 123
	case "rbrace":
		return 125
	case "lsqb":
		return 91
	case "rsqb":
		return 93
	case "grave":
		return 96
	}
	return 0
}

// special is the number of the character above ASCII whose name needs its semicolon, told without it; 0, if it is none.
func special(name string) int {
	switch name {
	case "hellip":
		return 8230
	case "mdash":
		return 8212
	case "ndash":
		return 8211
	case "lsquo":
		return 8216
	case "rsquo":
		return 8217
	case "ldquo":
		return 8220
	case "rdquo":
		return 8221
	case "bull":
		return 8226
	case "euro":
		return 8364
	case "trade":
		return 8482
	case "larr":
		return 8592
	case "rarr":
		return 8594
	case "zwj":
		return 8205
	case "zwnj":
		return 8204
	case "notin":
		return 8713
	case "ne":
		return 8800
	}
	return 0
}
