"""Leads: the strips of a cartoon's leads, and their pieces."""
