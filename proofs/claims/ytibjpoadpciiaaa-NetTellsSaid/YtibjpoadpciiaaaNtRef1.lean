/- The document's Weight of a graph. -/
import Derived.Test.YtibjpoadpciiaaaNtAsk2
import Derived.Test.YtibjpoadpciiaaaEdRef2
namespace Go.Proofs.Ytibjpoadpciiaaa
open Go.RowKit Go.ChangeShapes EdPure NtPure NumPure
theorem wOf_hit {M : List Ed} {p q : Int} : ∀ {k : Nat} (hk : k < M.length), isAt p q M[k] → (∀ j (hj : j < M.length), j < k → ¬ isAt p q M[j]) → wOf M p q = M[k].2.2 := by
  induction M with
  | nil => intro k hk; simp at hk
  | cons x r ih =>
    intro k hk h1 h2
    cases k with
    | zero => simp only [wOf, List.getElem_cons_zero]; exact if_pos h1
    | succ k =>
      have h0 : ¬ isAt p q x := h2 0 (by simp) (by omega)
      simp only [wOf]
      rw [if_neg h0, ih (by simpa using hk) h1 (fun j hj hjk => h2 (j + 1) (by simpa using hj) (by omega))]
      rfl
theorem wOf_miss {M : List Ed} {p q : Int} (h : ∀ j (hj : j < M.length), ¬ isAt p q M[j]) : wOf M p q = 0 := by
  induction M with
  | nil => rfl
  | cons x r ih =>
    have h0 : ¬ isAt p q x := h 0 (by simp)
    simp only [wOf]
    rw [if_neg h0]
    exact ih fun j hj => h (j + 1) (by simpa using hj)
/-- A graph of the document's, as a value and as it lies in a variable. -/
def RnAt (N : Nat) (n : Int) (a : Option Addr) (c : Nat) (M : List Ed) (w : World) : Prop := TwoAt N w (.int .i64 n) (.slice a M.length c) ∧ ReadsE w.heap.size w a M
theorem RnAt.keep {N : Nat} {n : Int} {a : Option Addr} {c : Nat} {M : List Ed} {w w' : World} (h : RnAt N n a c M w) (hb : Below w.heap.size w w') : RnAt N n a c M w' := ⟨h.1.on hb h.1.lt, h.2.over hb (Nat.le_refl _)⟩
theorem RnAt.box {n : Int} {a : Option Addr} {c : Nat} {M : List Ed} {w : World} (h : ReadsE w.heap.size w a M) : RnAt w.heap.size n a c M (w.alloc (.cells #[.int .i64 n, .slice a M.length c] 30)) :=
  ⟨TwoAt.new _ _ _ _, h.over ((Below.refl _ _).alloc (Nat.le_refl _) _) (Nat.le_refl _)⟩
def noneTo (M : List Ed) (p q : Int) (k : Nat) : Prop := k ≤ M.length ∧ ∀ j (hj : j < M.length), j < k → ¬ isAt p q M[j]
theorem noneTo.next {M : List Ed} {p q : Int} {k : Nat} (h : noneTo M p q k) (hk : k < M.length) (h0 : ¬ isAt p q M[k]) : noneTo M p q (k + 1) :=
  ⟨hk, fun j hj hjk => by
    by_cases e : j = k
    · subst e; exact h0
    · exact h.2 j hj (by omega)⟩
set_option maxRecDepth 100000 in
theorem refWeight_any (n : Int) (a : Option Addr) (c : Nat) (M : List Ed) (hl : M.length ≤ 1048576) (u v : Int) (w : World) (hR : ReadsE w.heap.size w a M) :
    Calls Try.prog 15 #[.agg #[.int .i64 n, .slice a M.length c], .int .i64 u, .int .i64 v] w fun e w' => e = .returned (.int .i64 (weiE M u v)) ∧ Below w.heap.size w w' := by
  obtain ⟨wt, hwt⟩ : ∃ wt, weiE M u v = wt := ⟨_, rfl⟩
  have HW : Hid (wOf M (min u v) (max u v) = wt) := Lib.hid hwt
  have HB : Hid (Below w.heap.size w (w.alloc (.cells #[.int .i64 n, .slice a M.length c] 30))) := Lib.hid ((Below.refl _ _).alloc (Nat.le_refl _) _)
  have HN : Hid (RnAt w.heap.size n a c M (w.alloc (.cells #[.int .i64 n, .slice a M.length c] 30))) := Lib.hid (RnAt.box hR)
  rw [hwt]
  clear hR hwt
  go_enter Try.func15, Try.ntmps15
  go_wp2
  generalize w.alloc (.cells #[.int .i64 n, .slice a M.length c] 30) = W at *
  have HN0 : Hid (noneTo M (min u v) (max u v) 0) := Lib.hid ⟨Nat.zero_le _, fun j _ h => by omega⟩
  go_loopw [7] (fun i wr => ∃ k : Nat, i = .int .i64 k ∧ wr = W ∧ Hid (noneTo M (min u v) (max u v) k)) (fun i _ => M.length - (intOf i).toNat)
  case atStart => exact ⟨0, rfl, rfl, HN0⟩
  case round =>
    obtain ⟨k, rfl, rfl, HK⟩ := hrel
    clear HN0
    have i0 : (0 : Int) ≤ (k : Int) := by omega
    obtain ⟨d0, d1, -, -⟩ := HN.out.1
    by_cases hlt : k < M.length
    · have i1 : (k : Int) < (M.length : Int) := by omega
      obtain ⟨p, q, x, he⟩ : ∃ p q x, M[k] = (p, q, x) := ⟨_, _, _, rfl⟩
      obtain ⟨b, off, rfl, hbw, hbr, c0, c1, c2⟩ := HN.out.2.cells hlt (Below.refl _ _) he
      have HE := Lib.hid he
      clear he hbw
      by_cases h1 : p = min u v
      · by_cases h2 : q = max u v
        · have HF : Hid (wt = x) := Lib.hid (by rw [← HW.out, wOf_hit hlt (by rw [HE.out]; exact ⟨h1, h2⟩) HK.out.2, HE.out])
          go_wp2
          go_ret
          exact ⟨ret_i HF.out.symm, HB.out⟩
        · have HF := Lib.hid (HK.out.next hlt (by rw [HE.out]; exact fun h => h2 h.2))
          go_wp2
          go_roundw
          case rel => exact ⟨k + 1, by go_num, trivial, HF⟩
          case measure => (simp [intOf]; omega)
      · have HF := Lib.hid (HK.out.next hlt (by rw [HE.out]; exact fun h => h1 h.1))
        go_wp2
        go_roundw
        case rel => exact ⟨k + 1, by go_num, trivial, HF⟩
        case measure => (simp [intOf]; omega)
    · have hk : k = M.length := by have := HK.out.1; omega
      subst hk
      have HF : Hid (wt = 0) := Lib.hid (by rw [← HW.out]; exact wOf_miss fun j hj => HK.out.2 j hj hj)
      go_wp2
      go_ret
      exact ⟨ret_i HF.out.symm, HB.out⟩
end Go.Proofs.Ytibjpoadpciiaaa
