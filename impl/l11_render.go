package impl

func ParaLines(text []int64, width int64) LinesResult {
	return LinesResult{}
}

func PrintLines(lines [][]int64) BytesResult {
	return BytesResult{}
}

func Render(data []byte, width int64) BytesResult {
	return BytesResult{}
}

func RenderEnded(data []byte, width int64) BytesResult {
	return BytesResult{}
}
