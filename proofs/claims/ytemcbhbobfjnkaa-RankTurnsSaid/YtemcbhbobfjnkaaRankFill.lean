/- A contract for fill: a list of what a function tells of each place; and for the closures that it is handed. -/
import Derived.Test.YtemcbhbobfjnkaaRankPure
import Derived.Test.YtemcbhbobfjnkaaInts
import Derived.Test.YtemcbhbobfjnkaaCellAt
import Derived.WalkMore
import Derived.Shelf.Abstract
namespace Go.Proofs.Ytemcbhbobfjnkaa
open Go.RowKit Go.ChangeShapes RankPure
theorem hmf : ∀ (fn : Fn) (first cap : Array Value) (w : World), (Instr.makeFunc fn first cap).run Try.prog w = .ok (.func fn first cap) w := fun _ _ _ _ => rfl
/-- The row, up to the k'th place. -/
def fillV (f : Nat → Int) (n k : Nat) : List Value := (List.range n).map fun i => encZ (if i < k then f i else 0)
theorem fillV_len (f : Nat → Int) (n k : Nat) : (fillV f n k).length = n := by unfold fillV; simp
theorem fillV_get {f : Nat → Int} {n k i : Nat} (hi : i < n) : (fillV f n k)[i]'(by rw [fillV_len]; exact hi) = encZ (if i < k then f i else 0) := by
  simp only [fillV, List.getElem_map, List.getElem_range]
theorem fillV_zero (f : Nat → Int) (n : Nat) : fillV f n 0 = List.replicate n (.int .i64 0) := by
  refine List.ext_getElem (by rw [fillV_len]; simp) fun i h1 h2 => ?_
  rw [fillV_len] at h1
  rw [fillV_get h1, List.getElem_replicate]
  rfl
theorem fillV_succ (f : Nat → Int) {n k : Nat} : (fillV f n k).set k (.int .i64 (f k)) = fillV f n (k + 1) := by
  refine List.ext_getElem (by rw [List.length_set, fillV_len, fillV_len]) fun i h1 h2 => ?_
  rw [fillV_len] at h2
  rw [List.getElem_set, fillV_get h2, fillV_get h2]
  by_cases h : k = i
  · subst h; rw [if_pos rfl, if_pos (by omega)]; rfl
  · rw [if_neg h]
    have : i < k ↔ i < k + 1 := by omega
    simp only [this]
theorem fillV_whole (f : Nat → Int) (n : Nat) : fillV f n n = ((List.range n).map f).map encZ := by
  refine List.ext_getElem (by rw [fillV_len]; simp) fun i h1 h2 => ?_
  rw [fillV_len] at h1
  rw [fillV_get h1, if_pos h1]
  simp
def FillRel (f : Nat → Int) (w0 : World) (n k : Nat) (w : World) : Prop := k ≤ n ∧ Below w0.heap.size w0 w ∧ RowIs w0.heap.size w (fillV f n k) ∧ w0.heap.size < w.heap.size
theorem FillRel.start (f : Nat → Int) (w : World) (n : Nat) (T : TypeId) : FillRel f w n 0 (w.alloc (.cells (madeCells #[.int .i64 0] n) T)) :=
  ⟨Nat.zero_le _, (Below.refl w.heap.size w).alloc (Nat.le_refl _) _, by rw [fillV_zero]; exact rowIs_made w (.int .i64 0) n T, by simp⟩
theorem FillRel.at {f : Nat → Int} {w0 : World} {n k : Nat} {w : World} (h : FillRel f w0 n k w) (hk : k < n) : ∃ v, w.cell? ⟨w0.heap.size, k, none⟩ = some v ∧ w.frozen? ⟨w0.heap.size, k, none⟩ = false := by
  have := h.2.2.1 k (by rw [fillV_len]; exact hk)
  exact ⟨_, this⟩
theorem FillRel.step {f : Nat → Int} {w0 : World} {n k : Nat} {w : World} (h : FillRel f w0 n k w) (hk : k < n) : FillRel f w0 n (k + 1) (w.setCell ⟨w0.heap.size, k, none⟩ (.int .i64 (f k))) := by
  obtain ⟨h1, h2, h3, h4⟩ := h
  refine ⟨by omega, h2.setCell (p := ⟨w0.heap.size, k, none⟩) (Nat.le_refl _) _, ?_, by simpa using h4⟩
  have := h3.set (k := k) (by rw [fillV_len]; exact hk) (.int .i64 (f k))
  rwa [fillV_succ] at this
theorem FillRel.drew {f : Nat → Int} {w0 : World} {n k : Nat} {w : World} (h : FillRel f w0 n k w) (m : Nat) : FillRel f w0 n k (w.drewN m) :=
  ⟨h.1, below_drewN h.2.1 m, h.2.2.1, h.2.2.2⟩
/-- What a closure that tells of a place is asked. -/
def Tells (g : Nat) (cb : Array Value) (f : Nat → Int) (n : Nat) (w : World) : Prop :=
  ∀ (i : Nat) (W : World), i < n → Below w.heap.size w W → Calls Try.prog g (#[.int .i64 (i : Int)] ++ cb) W fun e w' => e = .returned (.int .i64 (f i)) ∧ ∃ m, w' = W.drewN m
set_option maxHeartbeats 400000 in
theorem fill_any (g : Nat) (cb : Array Value) (f : Nat → Int) (n : Nat) (hn : n ≤ 1000) (w : World)
    (eg : ∀ args w, (callFunc g args).run Try.prog w = .ok (.enter g args) w) (hf : Tells g cb f n w) :
    Calls Try.prog 25 #[.int .i64 (n : Int), .func (.func g) #[] cb] w fun e w' => e = .returned (.slice (some ⟨w.heap.size, 0, none⟩) n n) ∧ FillRel f w n n w' := by
  have HF := Lib.hid hf
  have hmk := makeRow (P := Try.prog) (T := 26) (E := 3) (z := .int .i64 0) (c := 8) Try.underlying26 (by kernel_rfl) (by decide) rfl n (by omega) w
  have HS : Hid (FillRel f w n 0 (w.alloc (.cells (madeCells #[.int .i64 0] n) 3))) := Lib.hid (FillRel.start f w n 3)
  clear hf
  go_enter Try.func25, Try.ntmps25
  go_wp2
  go_loopw [11] (fun i wr => ∃ k : Nat, i = .int .i64 k ∧ Hid (FillRel f w n k wr)) (fun i _ => n - (intOf i).toNat)
  case atStart => exact ⟨0, rfl, HS⟩
  case round =>
    obtain ⟨k, rfl, HR⟩ := hrel
    have hkn := HR.out.1
    by_cases hlt : k < n
    · have i1 : (k : Int) < (n : Int) := by omega
      have HC := Lib.hid (HF.out k wr hlt HR.out.2.1)
      have HN : Hid (∀ m, FillRel f w n (k + 1) ((wr.drewN m).setCell ⟨w.heap.size, k, none⟩ (.int .i64 (f k)))) := Lib.hid fun m => (HR.out.drew m).step hlt
      obtain ⟨u, hc, hfz⟩ := HR.out.at hlt
      generalize f k = y at *
      go_wp2_with (go_at_fn g; refine HC.out.mono ?_; rintro e w1 ⟨rfl, m, rfl⟩)
      go_roundw
      case rel => exact ⟨k + 1, by go_num, Lib.hid (HN.out m)⟩
      case measure => (simp [intOf] <;> omega)
    · have hke : k = n := by omega
      subst hke
      go_wp2
      go_ret
      exact ⟨rfl, HR.out⟩
end Go.Proofs.Ytemcbhbobfjnkaa
