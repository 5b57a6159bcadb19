"""Guardline: words with guard signs."""
