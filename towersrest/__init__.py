"""Towers that act one behind another, and when all is at rest."""
