/- The document's own answers on an arc (layer 19). -/
import Derived.Test.YtaoocokcfppmaaaCsPure
import Derived.Test.YtaoocokcfppmaaaEdMem
import Derived.Test.YtaoocokcfppmaaaDag
import Derived.Deep.Cut
namespace Go.Proofs.Ytaoocokcfppmaaa.Cs
open Go.RowKit Go.ChangeShapes EdPure NtPure CsPure
/-- The graph as it is boxed, and its edges. -/
def BoxSt (w : World) (N : Nat) (n : Int) (a : Option Addr) (c : Nat) (M : List Ed) (W : World) : Prop :=
  Below w.heap.size w W ∧ TwoAt N W (.int .i64 n) (.slice a M.length c) ∧ ReadsE W.heap.size W a M
theorem BoxSt.keep {w W W' : World} {N : Nat} {n : Int} {a : Option Addr} {c : Nat} {M : List Ed} (h : BoxSt w N n a c M W) (hb : Below W.heap.size W W') : BoxSt w N n a c M W' :=
  ⟨h.1.trans (hb.mono h.1.size), h.2.1.on hb h.2.1.lt, h.2.2.over hb (Nat.le_refl _)⟩
theorem BoxSt.start {w : World} {n : Int} {a : Option Addr} {c : Nat} {M : List Ed} (hR : ReadsE w.heap.size w a M) :
    BoxSt w w.heap.size n a c M (w.alloc (.cells #[.int .i64 n, .slice a M.length c] 37)) :=
  have hb := (Below.refl w.heap.size w).alloc (Nat.le_refl _) (.cells #[.int .i64 n, .slice a M.length c] 37)
  ⟨hb, TwoAt.new _ _ _ _, hR.over hb (Nat.le_refl _)⟩
theorem ret_i {a b : Int} (h : a = b) : Ending.returned (.int .i64 a) = .returned (.int .i64 b) := by rw [h]
theorem two_all {N : Nat} {w : World} {u v : Value} (h : TwoAt N w u v) : w.cell? ⟨N, 0, none⟩ = some u ∧ w.cell? ⟨N, 1, none⟩ = some v := ⟨h.1, h.2.1⟩
theorem div_two (k : Nat) : (k : Int).tdiv 2 = ((k / 2 : Nat) : Int) := by rw [Int.tdiv_eq_ediv_of_nonneg (by omega)]; omega
theorem mod_two (k : Nat) : (k : Int).tmod 2 = ((k % 2 : Nat) : Int) := by rw [Int.tmod_eq_emod_of_nonneg (by omega)]; omega
theorem refBack_any (i : Int) (h0 : -9223372036854775808 ≤ i) (h1 : i ≤ 9223372036854775807) (w : World) :
    Calls Try.prog 21 #[.int .i64 i] w fun e w' => e = .returned (.int .i64 (backZ i)) ∧ Below w.heap.size w w' := by
  by_cases hn : i < 0
  · have HV : Hid (backZ i = -1) := Lib.hid (if_pos hn)
    go_enter Try.func21, Try.ntmps21
    go_wp2
    go_ret
    exact ⟨ret_i HV.out.symm, Below.refl _ _⟩
  obtain ⟨k, rfl⟩ : ∃ k : Nat, i = k := ⟨i.toNat, by omega⟩
  by_cases hp : k % 2 = 0
  · have e2 : (k : Int).tmod 2 = 0 := by rw [mod_two]; omega
    have HV : Hid (backZ (k : Int) = (k : Int) + 1) := Lib.hid (by unfold backZ; rw [if_neg hn, if_pos (by omega)])
    have hk : (k : Int) + 1 ≤ 9223372036854775807 := by omega
    clear hp
    go_enter Try.func21, Try.ntmps21
    go_wp2
    go_ret
    exact ⟨ret_i HV.out.symm, Below.refl _ _⟩
  · have e2 : (k : Int).tmod 2 = 1 := by rw [mod_two]; omega
    have HV : Hid (backZ (k : Int) = (k : Int) - 1) := Lib.hid (by unfold backZ; rw [if_neg hn, if_neg (by omega)])
    clear hp
    go_enter Try.func21, Try.ntmps21
    go_wp2
    go_ret
    exact ⟨ret_i HV.out.symm, Below.refl _ _⟩
theorem refEdgeNo_any (i : Int) (h1 : i ≤ 9223372036854775807) (w : World) :
    Calls Try.prog 23 #[.int .i64 i] w fun e w' => e = .returned (.int .i64 (edgeZ i)) ∧ Below w.heap.size w w' := by
  by_cases hn : i < 0
  · have HV : Hid (edgeZ i = -1) := Lib.hid (if_pos hn)
    go_enter Try.func23, Try.ntmps23
    go_wp2
    go_ret
    exact ⟨ret_i HV.out.symm, Below.refl _ _⟩
  · have e1 : i.tdiv 2 = i / 2 := Int.tdiv_eq_ediv_of_nonneg (by omega)
    have HV : Hid (edgeZ i = i / 2) := Lib.hid (if_neg hn)
    have q0 : i / 2 ≤ 9223372036854775807 := by omega
    have q1 : 0 ≤ i / 2 := by omega
    generalize hq : i / 2 = q at *
    clear hq
    go_enter Try.func23, Try.ntmps23
    go_wp2
    go_ret
    exact ⟨ret_i HV.out.symm, Below.refl _ _⟩
set_option maxRecDepth 100000 in
set_option maxHeartbeats 1000000 in
theorem refTail_any (n : Int) (a : Option Addr) (c : Nat) (M : List Ed) (_ : M.length ≤ 100000) (i : Int) (hi : i ≤ 9223372036854775807) (w : World) (hR : ReadsE w.heap.size w a M) :
    Calls Try.prog 15 #[.agg #[.int .i64 n, .slice a M.length c], .int .i64 i] w fun e w' => e = .returned (.int .i64 (tailZ M i)) ∧ Below w.heap.size w w' := by
  have HS : Hid (BoxSt w w.heap.size n a c M (w.alloc (.cells #[.int .i64 n, .slice a M.length c] 37))) := Lib.hid (BoxSt.start hR)
  clear hR
  by_cases hn : i < 0
  · have HV : Hid (tailZ M i = -1) := Lib.hid (if_pos hn)
    go_enter Try.func15, Try.ntmps15
    go_wp2
    go_ret
    exact ⟨ret_i HV.out.symm, HS.out.1⟩
  obtain ⟨k, rfl⟩ : ∃ k : Nat, i = k := ⟨i.toNat, by omega⟩
  obtain ⟨q, hq⟩ : ∃ q : Nat, k / 2 = q := ⟨_, rfl⟩
  have e1 : (k : Int).tdiv 2 = (q : Int) := by rw [div_two, hq]
  have q0 : (q : Int) ≤ 9223372036854775807 := by omega
  have q1 : (0 : Int) ≤ (q : Int) := by omega
  by_cases hh : q < M.length
  · obtain ⟨u, v, x, he⟩ : ∃ u v x, M[q] = (u, v, x) := ⟨_, _, _, rfl⟩
    have i1 : ¬ (q : Int) ≥ (M.length : Int) := by omega
    have i2 : (q : Int) < (M.length : Int) := by omega
    have i3 : (0 : Int) ≤ (q : Int) := by omega
    by_cases hp : k % 2 = 0
    · have e2 : (k : Int).tmod 2 = 0 := by rw [mod_two]; omega
      have HV : Hid (tailZ M (k : Int) = u) := Lib.hid (by rw [tail_nat, end_at (by rw [hq]; exact hh), if_pos hp]; simp only [hq, he])
      clear hp hq
      go_enter Try.func15, Try.ntmps15
      go_upto_region 1 with fail
      generalize w.alloc (.cells #[.int .i64 n, .slice a M.length c] 37) = W0 at *
      obtain ⟨c0, c1, -, -⟩ := HS.out.2.1
      obtain ⟨b, off, rfl, -, hbr, m0, m1, m2⟩ := HS.out.2.2.cells hh (Below.refl _ _) he
      clear he
      go_wp2
      go_ret
      exact ⟨ret_i HV.out.symm, HS.out.1⟩
    · have e2 : (k : Int).tmod 2 = 1 := by rw [mod_two]; omega
      have HV : Hid (tailZ M (k : Int) = v) := Lib.hid (by rw [tail_nat, end_at (by rw [hq]; exact hh), if_neg hp]; simp only [hq, he])
      clear hp hq
      go_enter Try.func15, Try.ntmps15
      go_upto_region 1 with fail
      generalize w.alloc (.cells #[.int .i64 n, .slice a M.length c] 37) = W0 at *
      obtain ⟨c0, c1, -, -⟩ := HS.out.2.1
      obtain ⟨b, off, rfl, -, hbr, m0, m1, m2⟩ := HS.out.2.2.cells hh (Below.refl _ _) he
      clear he
      go_wp2
      go_ret
      exact ⟨ret_i HV.out.symm, HS.out.1⟩
  · have i1 : (q : Int) ≥ (M.length : Int) := by omega
    have HV : Hid (tailZ M (k : Int) = -1) := Lib.hid (by rw [tail_nat, end_none (by rw [hq]; exact hh)])
    clear hq
    go_enter Try.func15, Try.ntmps15
    go_upto_region 1 with fail
    generalize w.alloc (.cells #[.int .i64 n, .slice a M.length c] 37) = W0 at *
    obtain ⟨c0, c1, -, -⟩ := HS.out.2.1
    go_wp2
    go_ret
    exact ⟨ret_i HV.out.symm, HS.out.1⟩
end Go.Proofs.Ytaoocokcfppmaaa.Cs
