package checker

import "stele/api"

// Scalars returns the names of all scalars, in the order in which they are placed.
func Scalars(p api.Program) []string {
	names := append([]string(nil), p.Vars...)
	for _, f := range p.Funcs {
		names = appendOwn(names, f.Name, f.Params)
		names = appendOwn(names, f.Name, f.Locals)
	}
	return names
}

// appendOwn appends names that belong to a function.
func appendOwn(names []string, function string, own []string) []string {
	for _, name := range own {
		names = append(names, function+"."+name)
	}
	return names
}

// Arrays returns the addresses of all arrays, in the order of their declaration.
func Arrays(p api.Program, o api.Origins) ([]api.Symbol, api.Errno) {
	var symbols []api.Symbol
	at := o.Arrays
	for _, a := range p.Arrays {
		if at < 0 || a.Size <= 0 || a.Size > api.MemoryWords-at {
			return nil, api.ErrRange
		}
		symbols = append(symbols, api.Symbol{Name: a.Name, At: at})
		at += a.Size
	}
	return symbols, api.OK
}
