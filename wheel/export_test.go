package wheel

// Late makes it as late on a wheel as no calls could within the document's bound: so the tests come to the last tick.
func (w *Wheel) Late(now int64) { w.now = now }
