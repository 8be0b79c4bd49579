"""Nearest to all: how far rows of answers are from what the judges say."""
