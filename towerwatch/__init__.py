"""Towers that watch one another's flags."""
