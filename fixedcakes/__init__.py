"""Fixed points and cakes: colours on a triangle, and where all three meet."""
