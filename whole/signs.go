package whole

import "vouch/api"

// The tables of signs are asked by both numbers' signs at once: a's tells the row, b's the place in it; each from below 0 over 0 to above.

// across stands in sums where the signs alone don't tell the sum's: there it is that of the greater worth.
const across = 2

var (
	// sums are the signs of a + b.
	sums = [3][3]int{
		{-1, -1, across},
		{-1, 0, 1},
		{across, 1, 1},
	}

	// products are the signs of a b, and of a over b.
	products = [3][3]int{
		{1, 0, -1},
		{0, 0, 0},
		{-1, 0, 1},
	}

	// orders are how a stands to b, as far as their signs tell it: 0 where they are the same.
	orders = [3][3]int{
		{0, -1, -1},
		{1, 0, -1},
		{1, 1, 0},
	}
)

// places tells the row and the place in it at which the tables are asked for a and b.
func places(a, b api.Whole) (int, int) {
	return Sign(a) + 1, Sign(b) + 1
}
