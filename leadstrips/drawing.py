"""The drawing that a list of bytes tells, and the places of what is in it."""

HEAD_SIZE = 20
POINT_SIZE = 8
LINE_SIZE = 4
MARK_SIZE = 12


class Drawing:
    """A frame, and the points (x, y), the lines (two points' numbers) and the marks (x, y) in their order."""

    def __init__(self, width, height, points, lines, marks):
        self.width = width
        self.height = height
        self.points = points
        self.lines = lines
        self.marks = marks


def number_at(cartoon, place, size):
    """The number in so many bytes from place on, the lowest byte first."""
    number = 0
    for byte in reversed(cartoon[place:place + size]):
        number = number * 256 + byte
    return number


def pair_at(cartoon, place, size):
    """Two numbers of so many bytes each from place on."""
    return (number_at(cartoon, place, size), number_at(cartoon, place + size, size))


def lines_begin(cartoon):
    """The place behind the points."""
    return HEAD_SIZE + POINT_SIZE * number_at(cartoon, 12, 2)


def marks_begin(cartoon):
    """The place behind the lines."""
    return lines_begin(cartoon) + LINE_SIZE * number_at(cartoon, 14, 2)


def asked_size(cartoon):
    """How many bytes the head asks for: the place behind the marks."""
    return marks_begin(cartoon) + MARK_SIZE * number_at(cartoon, 16, 2)


def drawing_of(cartoon):
    """The drawing in bytes that are as many as their head asks for."""
    lines_at = lines_begin(cartoon)
    marks_at = marks_begin(cartoon)
    points = [pair_at(cartoon, place, 4) for place in range(HEAD_SIZE, lines_at, POINT_SIZE)]
    lines = [pair_at(cartoon, place, 2) for place in range(lines_at, marks_at, LINE_SIZE)]
    marks = [pair_at(cartoon, place, 4) for place in range(marks_at, len(cartoon), MARK_SIZE)]
    return Drawing(number_at(cartoon, 4, 4), number_at(cartoon, 8, 4), points, lines, marks)


def point_place(i):
    """The place of point i."""
    return HEAD_SIZE + POINT_SIZE * i


def line_place(drawing, i):
    """The place of line i."""
    return point_place(len(drawing.points)) + LINE_SIZE * i


def mark_place(drawing, i):
    """The place of mark i; of the mark behind the last: how many bytes there are."""
    return line_place(drawing, len(drawing.lines)) + MARK_SIZE * i


def on_frame(drawing, point):
    """Whether the point is on the frame's edge."""
    return point[0] in (0, drawing.width) or point[1] in (0, drawing.height)


def other_end(line, point):
    """The number of the line's end that isn't the point of that number."""
    return line[1] if line[0] == point else line[0]
