package secrets_test

import (
	"errors"
	"fmt"

	"secrets/api"
	"secrets/secrets"
)

// The document's three actors, as README.md shows them.
func ExampleNewOrder() {
	o := secrets.NewOrder(3, [][2]int{{2, 0}})
	own := []api.Policy{{Owner: 0}}
	more := []api.Policy{{Owner: 0, Readers: 1 << 1}}
	fmt.Println(o.Over(2, 0), o.Over(0, 2))
	fmt.Println(o.Reads(0, own), o.Reads(1, own), o.Reads(2, own))
	fmt.Println(o.Flows(more, own), o.Flows(own, more))
	fmt.Println(o.Norm(own), o.Join(own, more))
	// Output:
	// true false
	// true false true
	// true false
	// [{0 5}] [{0 5}]
}

// A program that keeps its secrets, and one that does not, as README.md shows them.
func ExampleCompile() {
	const given = "actor a;actor b;in s {a:};out o {};var h;var l {};"
	p, err := secrets.Compile(given + "do {get s h;free l=h {} by a;put o l;}")
	fmt.Println(err)
	fmt.Print(p.Print())
	for name, l := range p.Labels() {
		fmt.Println(name, l)
	}
	_, err = secrets.Compile(given + "do {get s h;put o h;}")
	fmt.Println(err, errors.Is(err, api.ErrFlow))
	// Output:
	// <nil>
	// actor a;
	// actor b;
	// in s {a:};
	// out o {};
	// var h;
	// var l {};
	// do {
	//   get s h;
	//   free l = h {} by a;
	//   put o l;
	// }
	// h [{0 1}]
	// l []
	// ErrFlow at byte 62 true
}

// A code that frees what it got, as README.md shows it.
func ExampleLoad() {
	c, err := secrets.Load("SCR1" +
		"\x02\x01\x02" + // two actors, each of whom acts for itself
		"\x02\x01\x00\x01\x00" + // two labels: the first actor's own, and that of nobody
		"\x01\x00" + "\x01\x01" + "\x02\x00\x01" + // an input, an output, two variables, with their labels
		"\x00\x0a\x00\x00" + // Step, Get: from the input into the first variable
		"\x00\x02\x00\x11\x01\x01\x01" + // Step, Load, Free: to the second variable, by the first actor
		"\x00\x02\x01\x0b\x00") // Step, Load, Put
	fmt.Println(err, c.Ins(), c.Outs(), c.Frees())
	end := c.Run(
		func(channel int) (int, bool) { return 7, true },
		9,
		func(e api.Event) bool {
			fmt.Println(e)
			return true
		},
	)
	fmt.Println(end == api.Done)
	_, err = secrets.Load("SCR1")
	fmt.Println(err, errors.Is(err, api.ErrCode))
	// Output:
	// <nil> [[{0 1}]] [[]] 1
	// {1 0 7}
	// {3 1 7}
	// {2 0 7}
	// true
	// ErrCode at byte 0 true
}

// A program that is compiled and run, as README.md shows it.
func ExampleProgram_Code() {
	p, err := secrets.Compile("actor a;actor b;in s {a:};out o {};var h;var l {};do {get s h;free l=h {} by a;put o l;}")
	fmt.Println(err)
	c := p.Code()
	seven := func(channel int) (int, bool) { return 7, true }
	see := func(e api.Event) bool {
		fmt.Println(e)
		return true
	}
	fmt.Println(c.Run(seven, 9, see) == api.Done)
	fmt.Println(c.Run(seven, 2, see) == api.Fuel)
	again, err := secrets.Load(c.Bytes())
	fmt.Println(err, again.Bytes() == c.Bytes())
	fmt.Printf("%x\n", c.Bytes())
	// Output:
	// <nil>
	// {1 0 7}
	// {3 1 7}
	// {2 0 7}
	// true
	// {1 0 7}
	// {3 1 7}
	// true
	// <nil> true
	// 53435231020102020100010001000101020001000a0000000200110101010002010b00
}
