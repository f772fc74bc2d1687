"""Numbers with a partner: whole numbers and so many times a root, exactly ordered."""
