package match_test

import (
	"fmt"

	"layercake/api"
	"layercake/match"
)

func Example() {
	text, err := match.Expand([]api.Token{{Byte: 'a'}, {Length: 5, Behind: 1}})
	fmt.Println(text, err)
	tokens, err := match.Tokens("abcabcabc", api.MaxWindow)
	fmt.Println(tokens, err)
	count, err := match.Fewest("abcabcabc", api.MaxWindow)
	fmt.Println(count, err)
	// Output:
	// aaaaaa <nil>
	// [{97 0 0} {98 0 0} {99 0 0} {0 6 3}] <nil>
	// 4 <nil>
}
