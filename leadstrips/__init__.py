"""Leads: the strips of a cartoon's leads, their pieces, and the bars that these come from."""
