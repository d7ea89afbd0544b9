/- The document's graph, as it is boxed; numbers that a call answers. No function of the program is named. -/
import Derived.Test.YtbankocbncpepaaEdMem
import Derived.Test.YtbankocbncpepaaInts
namespace Go.Proofs.Ytbankocbncpepaa.Cm
open Go.RowKit Go.ChangeShapes EdPure
/-- The graph as it is boxed, and its edges. -/
def BoxSt (w : World) (N : Nat) (n : Int) (a : Option Addr) (c : Nat) (M : List Ed) (W : World) : Prop :=
  Below w.heap.size w W ∧ TwoAt N W (.int .i64 n) (.slice a M.length c) ∧ ReadsE W.heap.size W a M
theorem BoxSt.keep {w W W' : World} {N : Nat} {n : Int} {a : Option Addr} {c : Nat} {M : List Ed} (h : BoxSt w N n a c M W) (hb : Below W.heap.size W W') : BoxSt w N n a c M W' :=
  ⟨h.1.trans (hb.mono h.1.size), h.2.1.on hb h.2.1.lt, h.2.2.over hb (Nat.le_refl _)⟩
theorem BoxSt.start {w : World} {n : Int} {a : Option Addr} {c : Nat} {M : List Ed} (hR : ReadsE w.heap.size w a M) :
    BoxSt w w.heap.size n a c M (w.alloc (.cells #[.int .i64 n, .slice a M.length c] 36)) :=
  have hb := (Below.refl w.heap.size w).alloc (Nat.le_refl _) (.cells #[.int .i64 n, .slice a M.length c] 36)
  ⟨hb, TwoAt.new _ _ _ _, hR.over hb (Nat.le_refl _)⟩
theorem two_all {N : Nat} {w : World} {u v : Value} (h : TwoAt N w u v) : w.cell? ⟨N, 0, none⟩ = some u ∧ w.cell? ⟨N, 1, none⟩ = some v := ⟨h.1, h.2.1⟩
def IntsOf (l : List Int) (w : World) (e : Ending) (w' : World) : Prop := Below w.heap.size w w' ∧ ∃ q c, e = .returned (.slice q l.length c) ∧ ReadsL encZ w'.heap.size w' q l
end Go.Proofs.Ytbankocbncpepaa.Cm
