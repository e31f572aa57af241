/- Stores that leave a list in the law's own form. -/
import Derived.Test.YtaenccjlokiejaaGreatDoorHSame
import Derived.Test.YtaenccjlokiejaaGreatDoorHSmallF
namespace Go.Proofs.YtaenccjlokiejaaGreatDoor
open Go.RowKit Go.Shelf

theorem FOwn.put4 {t : TypeId} {w : World} {B : Nat} {v : Value} {l : List Fl} (h : FOwn t w B v l) (b : Nat) (hb : b < B) (x y z u : Value) : FOwn t (put4 w b x y z u) B v l := (((h.setOther b 0 hb x).setOther b 1 hb y).setOther b 2 hb z).setOther b 3 hb u
theorem FOwn.put3 {t : TypeId} {w : World} {B : Nat} {v : Value} {l : List Fl} (h : FOwn t w B v l) (b : Nat) (hb : b < B) (x y z : Value) : FOwn t (put3 w b x y z) B v l := ((h.setOther b 0 hb x).setOther b 1 hb y).setOther b 2 hb z
end Go.Proofs.YtaenccjlokiejaaGreatDoor
