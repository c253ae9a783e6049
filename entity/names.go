package entity

// A row is a name and its character.
type row struct {
	name string
	char rune
}

// count is how many names there are.
const count = 183

// table is all names, sorted byte by byte: Named looks them up by halves.
func table() [count]row {
	return [...]row{
		{"AElig", 198}, {"Aacute", 193}, {"Acirc", 194}, {"Agrave", 192},
		{"Alpha", 913}, {"Aring", 197}, {"Atilde", 195}, {"Auml", 196},
		{"Beta", 914}, {"Ccedil", 199}, {"ClockwiseContourIntegral", 8754}, {"Dagger", 8225},
		{"Dcaron", 270}, {"Delta", 916}, {"DifferentialD", 8518}, {"ETH", 208},
		{"Eacute", 201}, {"Ecirc", 202}, {"Egrave", 200}, {"Euml", 203},
		{"Gamma", 915}, {"HilbertSpace", 8459}, {"Iacute", 205}, {"Icirc", 206},
		{"Igrave", 204}, {"Iuml", 207}, {"Ntilde", 209}, {"OElig", 338},
		{"Oacute", 211}, {"Ocirc", 212}, {"Ograve", 210}, {"Omega", 937},
		{"Oslash", 216}, {"Otilde", 213}, {"Ouml", 214}, {"Scaron", 352},
		{"THORN", 222}, {"Uacute", 218}, {"Ucirc", 219}, {"Ugrave", 217},
		{"Uuml", 220}, {"Yacute", 221}, {"Yuml", 376}, {"aacute", 225},
		{"acirc", 226}, {"acute", 180}, {"aelig", 230}, {"agrave", 224},
		{"alpha", 945}, {"amp", 38}, {"apos", 39}, {"aring", 229},
		{"asymp", 8776}, {"atilde", 227}, {"auml", 228}, {"bdquo", 8222},
		{"beta", 946}, {"brvbar", 166}, {"bull", 8226}, {"cap", 8745},
		{"ccedil", 231}, {"cedil", 184}, {"cent", 162}, {"circ", 710},
		{"clubs", 9827}, {"copy", 169}, {"cup", 8746}, {"curren", 164},
		{"dagger", 8224}, {"darr", 8595}, {"deg", 176}, {"delta", 948},
		{"diams", 9830}, {"divide", 247}, {"eacute", 233}, {"ecirc", 234},
		{"egrave", 232}, {"empty", 8709}, {"emsp", 8195}, {"ensp", 8194},
		{"epsilon", 949}, {"equiv", 8801}, {"eth", 240}, {"euml", 235},
		{"euro", 8364}, {"exist", 8707}, {"fnof", 402}, {"forall", 8704},
		{"frac12", 189}, {"frac14", 188}, {"frac34", 190}, {"gamma", 947},
		{"ge", 8805}, {"gt", 62}, {"harr", 8596}, {"hearts", 9829},
		{"hellip", 8230}, {"iacute", 237}, {"icirc", 238}, {"iexcl", 161},
		{"igrave", 236}, {"infin", 8734}, {"int", 8747}, {"iquest", 191},
		{"isin", 8712}, {"iuml", 239}, {"lambda", 955}, {"laquo", 171},
		{"larr", 8592}, {"ldquo", 8220}, {"le", 8804}, {"lsaquo", 8249},
		{"lsquo", 8216}, {"lt", 60}, {"macr", 175}, {"mdash", 8212},
		{"micro", 181}, {"middot", 183}, {"minus", 8722}, {"mu", 956},
		{"nabla", 8711}, {"nbsp", 160}, {"ndash", 8211}, {"ne", 8800},
		{"ni", 8715}, {"not", 172}, {"ntilde", 241}, {"oacute", 243},
		{"ocirc", 244}, {"oelig", 339}, {"ograve", 242}, {"omega", 969},
		{"oplus", 8853}, {"ordf", 170}, {"ordm", 186}, {"oslash", 248},
		{"otilde", 245}, {"otimes", 8855}, {"ouml", 246}, {"para", 182},
		{"part", 8706}, {"permil", 8240}, {"perp", 8869}, {"pi", 960},
		{"plusmn", 177}, {"pound", 163}, {"prod", 8719}, {"quot", 34},
		{"radic", 8730}, {"raquo", 187}, {"rarr", 8594}, {"rdquo", 8221},
		{"reg", 174}, {"rsaquo", 8250}, {"rsquo", 8217}, {"sbquo", 8218},
		{"scaron", 353}, {"sdot", 8901}, {"sect", 167}, {"shy", 173},
		{"sigma", 963}, {"spades", 9824}, {"sub", 8834}, {"sum", 8721},
		{"sup", 8835}, {"sup1", 185}, {"sup2", 178}, {"sup3", 179},
		{"szlig", 223}, {"thinsp", 8201}, {"thorn", 254}, {"tilde", 732},
		{"times", 215}, {"trade", 8482}, {"uacute", 250}, {"uarr", 8593},
		{"ucirc", 251}, {"ugrave", 249}, {"uml", 168}, {"uuml", 252},
		{"yacute", 253}, {"yen", 165}, {"yuml", 255},
	}
}
