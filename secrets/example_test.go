package secrets_test

import (
	"errors"
	"fmt"

	"secrets/api"
	"secrets/secrets"
)

// The document's three actors, as README.md shows them.
func ExampleNewOrder() {
	o := secrets.NewOrder(3, [][2]int{{2, 0}})
	own := []api.Policy{{Owner: 0}}
	more := []api.Policy{{Owner: 0, Readers: 1 << 1}}
	fmt.Println(o.Over(2, 0), o.Over(0, 2))
	fmt.Println(o.Reads(0, own), o.Reads(1, own), o.Reads(2, own))
	fmt.Println(o.Flows(more, own), o.Flows(own, more))
	fmt.Println(o.Norm(own), o.Join(own, more))
	// Output:
	// true false
	// true false true
	// true false
	// [{0 5}] [{0 5}]
}

// A program that keeps its secrets, and one that does not, as README.md shows them.
func ExampleCompile() {
	const given = "actor a;actor b;in s {a:};out o {};var h;var l {};"
	p, err := secrets.Compile(given + "do {get s h;free l=h {} by a;put o l;}")
	fmt.Println(err)
	fmt.Print(p.Print())
	for name, l := range p.Labels() {
		fmt.Println(name, l)
	}
	_, err = secrets.Compile(given + "do {get s h;put o h;}")
	fmt.Println(err, errors.Is(err, api.ErrFlow))
	// Output:
	// <nil>
	// actor a;
	// actor b;
	// in s {a:};
	// out o {};
	// var h;
	// var l {};
	// do {
	//   get s h;
	//   free l = h {} by a;
	//   put o l;
	// }
	// h [{0 1}]
	// l []
	// ErrFlow at byte 62 true
}
