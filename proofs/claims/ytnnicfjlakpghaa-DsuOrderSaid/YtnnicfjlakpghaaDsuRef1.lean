/- The document's answers of layer 10, at every argument: whether there is a vertex, what its class is called, how many it has, whether two are in one. -/
import Derived.Test.YtnnicfjlakpghaaDsuList
import Derived.Deep.RegionHeld3
namespace Go.Proofs.Ytnnicfjlakpghaa
open Go.RowKit Go.ChangeShapes Go.Maps DsuPure
/-- The names, as the document's classes list them. -/
def namesL (n : Nat) (p : Nat → Nat) : List Int := (List.range n).map fun v => (p v : Int)
theorem namesL_len (n : Nat) (p : Nat → Nat) : (namesL n p).length = n := by simp [namesL]
theorem namesL_at {n k : Nat} (p : Nat → Nat) (h : k < (namesL n p).length) : (namesL n p)[k] = (p k : Int) := by simp [namesL]
def RefAt (w : World) (a : Option Addr) (n : Nat) (p : Nat → Nat) : Prop := ReadsL encZ w.heap.size w a (namesL n p)
theorem RefAt.keep {w w' : World} {a : Option Addr} {n : Nat} {p : Nat → Nat} (h : RefAt w a n p) (hb : Below w.heap.size w w') : RefAt w' a n p := ReadsL.over h hb (Nat.le_refl _)
theorem RefAt.at {w : World} {a : Option Addr} {n : Nat} {p : Nat → Nat} (h : RefAt w a n p) {k : Nat} (hk : k < n) : ∃ b off, a = some ⟨b, off, none⟩ ∧ b < w.heap.size ∧ w.cell? ⟨b, off + k, none⟩ = some (.int .i64 (p k : Int)) := by
  obtain ⟨b, off, h1, h2, h3⟩ := ReadsL.at h (k := k) (by rw [namesL_len]; exact hk)
  rw [namesL_at] at h3
  exact ⟨b, off, h1, h2, h3⟩
/-- The document's classes in the variable of a call. -/
def BoxAt (w0 : World) (B : Nat) (a : Option Addr) (n c : Nat) (p : Nat → Nat) (W : World) : Prop :=
  Below w0.heap.size w0 W ∧ B < W.heap.size ∧ W.cell? ⟨B, 0, none⟩ = some (.slice a n c) ∧ RefAt W a n p
theorem BoxAt.keep {w0 W W' : World} {B n c : Nat} {a : Option Addr} {p : Nat → Nat} (h : BoxAt w0 B a n c p W) (hb : Below W.heap.size W W') : BoxAt w0 B a n c p W' := by
  obtain ⟨h1, h2, h3, h4⟩ := h
  exact ⟨h1.trans (hb.mono h1.size), Nat.lt_of_lt_of_le h2 hb.size, (hb.cell (p := ⟨B, 0, none⟩) h2).trans h3, h4.keep hb⟩
theorem BoxAt.start (w : World) (a : Option Addr) (n c : Nat) (p : Nat → Nat) (h : RefAt w a n p) (T : TypeId) : BoxAt w w.heap.size a n c p (w.alloc (.cells #[.slice a n c] T)) := by
  have hb := (Below.refl w.heap.size w).alloc (Nat.le_refl _) (.cells #[.slice a n c] T)
  exact ⟨hb, by simp, by simp, h.keep hb⟩
theorem inRef_any (n : Nat) (a : Option Addr) (c : Nat) (v : Int) (w : World) :
    Calls Try.prog 22 #[.agg #[.slice a n c], .int .i64 v] w fun e w' => e = .returned (.bool (fitB n v)) ∧ Below w.heap.size w w' := by
  have hF := Lib.hid (show fitB n v = (decide (0 ≤ v) && decide (v < (n : Int))) from rfl)
  have HB := Lib.hid (fun o => (Below.refl w.heap.size w).alloc (Nat.le_refl _) o)
  by_cases h0 : 0 ≤ v
  · have t1 : decide (v ≥ 0) = true := decide_eq_true h0
    by_cases h1 : v < n
    · have t2 : decide (v < (n : Int)) = true := decide_eq_true h1
      have hR : Hid (fitB n v = true) := Lib.hid (by rw [hF.out, decide_eq_true h0, t2]; rfl)
      go_enter Try.func22, Try.ntmps22
      go_wp2
      go_ret
      exact ⟨bool_ret hR.out.symm, HB.out _⟩
    · have t2 : decide (v < (n : Int)) = false := decide_eq_false h1
      have hR : Hid (fitB n v = false) := Lib.hid (by rw [hF.out, t2, Bool.and_false])
      go_enter Try.func22, Try.ntmps22
      go_wp2
      go_ret
      exact ⟨bool_ret hR.out.symm, HB.out _⟩
  · have t1 : decide (v ≥ 0) = false := decide_eq_false h0
    have hR : Hid (fitB n v = false) := Lib.hid (by rw [hF.out, decide_eq_false h0, Bool.false_and])
    go_enter Try.func22, Try.ntmps22
    go_wp2
    go_ret
    exact ⟨bool_ret hR.out.symm, HB.out _⟩
theorem ofRef_any (n : Nat) (p : Nat → Nat) (a : Option Addr) (c : Nat) (v : Int) (w : World) (h : RefAt w a n p) :
    Calls Try.prog 10 #[.agg #[.slice a n c], .int .i64 v] w fun e w' => e = .returned (.int .i64 (ofZ n p v)) ∧ Below w.heap.size w w' := by
  have HS := Lib.hid (fun T => BoxAt.start w a n c p h T)
  clear h
  cases hf : fitB n v
  · have HF := Lib.hid hf
    have HO : Hid (ofZ n p v = -1) := Lib.hid (by unfold ofZ; rw [hf]; rfl)
    clear hf
    go_enter Try.func10, Try.ntmps10
    go_wp2_with (first | (go_at_call 22; refine (inRef_any n a c v _).mono ?_; rintro e w1 ⟨rfl, hb1⟩; have HB1 := Lib.hid ((HS.out _).keep hb1); clear hb1; rw [HF.out]))
    go_ret
    exact ⟨ret_i HO.out.symm, HB1.out.1⟩
  · have HF := Lib.hid hf
    obtain ⟨x, rfl, hx⟩ := fit_yes hf
    have HO : Hid (ofZ n p (x : Int) = (p x : Int)) := Lib.hid (by unfold ofZ; rw [hf]; rfl)
    clear hf
    have i0 : (0 : Int) ≤ (x : Int) := by omega
    have i1 : (x : Int) < (n : Int) := by omega
    go_enter Try.func10, Try.ntmps10
    go_wp2_with fail
    refine (inRef_any n a c x _).mono ?_
    rintro e w1 ⟨rfl, hb1⟩
    have HB1 := Lib.hid ((HS.out _).keep hb1)
    clear hb1
    rw [HF.out]
    have c0 := HB1.out.2.2.1
    obtain ⟨b, off, rfl, hbN, d0⟩ := HB1.out.2.2.2.at hx
    go_wp2
    go_ret
    exact ⟨ret_i HO.out.symm, HB1.out.1⟩
theorem BoxAt.both0 {w0 W : World} {B n c : Nat} {a : Option Addr} {p : Nat → Nat} (h : BoxAt w0 B a n c p W) : W.cell? ⟨B, 0, none⟩ = some (.slice a n c) ∧ Hid (BoxAt w0 B a n c p W) := ⟨h.2.2.1, Lib.hid h⟩
theorem BoxAt.both {w0 W W' : World} {B n c : Nat} {a : Option Addr} {p : Nat → Nat} (h : BoxAt w0 B a n c p W) (hb : Below W.heap.size W W') : W'.cell? ⟨B, 0, none⟩ = some (.slice a n c) ∧ Hid (BoxAt w0 B a n c p W') := (h.keep hb).both0
set_option maxRecDepth 100000 in
set_option maxHeartbeats 4000000 in
theorem sameRef_any (n : Nat) (p : Nat → Nat) (a : Option Addr) (c : Nat) (u v : Int) (w : World) (h : RefAt w a n p) :
    Calls Try.prog 9 #[.agg #[.slice a n c], .int .i64 u, .int .i64 v] w fun e w' => e = .returned (.bool (sameZ n p u v)) ∧ Below w.heap.size w w' := by
  have HS := Lib.hid (fun k T => (BoxAt.start w a n c p h T).keep (below_drewN (Below.refl _ _) k))
  clear h
  cases hu : fitB n u
  · have HF := Lib.hid hu
    have HO : Hid (sameZ n p u v = false) := Lib.hid (by unfold sameZ; rw [hu]; rfl)
    clear hu
    go_enter Try.func9, Try.ntmps9
    go_wp2_with fail
    refine wp_region_held_drew (S := (fun W => W.cell? ⟨w.heap.size, 0, none⟩ = some (.slice a n c) ∧ Hid (BoxAt w w.heap.size a n c p W))) (by kernel_rfl) (HS.out 1 _).both0 (fun hHeld => ?_)
    refine wpAnyH_take (i := 0) (v := ?v0) rfl (by kernel_rfl) (by kernel_rfl) (by kernel_rfl) (fun _ _ _ h => h) (Or.inl ⟨by kernel_rfl, fun w' hSw => ?hy0⟩) (by assumption) ?rest0
    case hy0 => ((try dsimp only at hSw); go_simp; (try with_reducible rfl))
    simp only [Act.put]
    refine wpAnyH_take (i := 1) (v := ?v1) rfl (by kernel_rfl) (by kernel_rfl) (by kernel_rfl) (fun _ _ _ h => h) (Or.inl ⟨by kernel_rfl, fun w' hSw => ?hy1⟩) (by assumption) ?rest1
    case hy1 => ((try dsimp only at hSw); go_simp; (try with_reducible rfl))
    simp only [Act.put]
    refine wpAnyH_ready (rs := [2]) (by kernel_rfl) (by simp) ?_
    refine AllReadyH.cons rfl (fun K hK => ?_) AllReadyH.nil
    go_simp
    refine (inRef_any n a c u _).mono ?_
    rintro e w1 ⟨rfl, hb1⟩
    rw [HF.out]
    go_wp2_with fail
    refine hK.out _ _ ?hS2 (fun hHeld => ?rest2)
    case hS2 => exact (by assumption : _ ∧ Hid (BoxAt w w.heap.size a n c p _)).2.out.both hb1
    clear hK K
    refine wpAnyH_take (i := 3) (v := ?v3) rfl (by kernel_rfl) (by kernel_rfl) (by kernel_rfl) (fun _ _ _ h => h) (Or.inl ⟨by kernel_rfl, fun w' hSw => ?hy3⟩) (by assumption) ?rest3
    case hy3 => ((try dsimp only at hSw); go_simp; (try with_reducible rfl))
    simp only [Act.put]
    refine wpAnyH_take (i := 4) (v := undef) rfl (by kernel_rfl) (by kernel_rfl) (by kernel_rfl) (fun _ _ _ h => h) (Or.inr ⟨by kernel_rfl, rfl⟩) (by assumption) ?_
    simp only [Act.put]
    refine wpAnyH_take (i := 5) (v := undef) rfl (by kernel_rfl) (by kernel_rfl) (by kernel_rfl) (fun _ _ _ h => h) (Or.inr ⟨by kernel_rfl, rfl⟩) (by assumption) ?_
    simp only [Act.put]
    refine wpAnyH_take (i := 6) (v := undef) rfl (by kernel_rfl) (by kernel_rfl) (by kernel_rfl) (fun _ _ _ h => h) (Or.inr ⟨by kernel_rfl, rfl⟩) (by assumption) ?_
    simp only [Act.put]
    refine wpAnyH_take (i := 7) (v := ?v7) rfl (by kernel_rfl) (by kernel_rfl) (by kernel_rfl) (fun _ _ _ h => h) (Or.inl ⟨by kernel_rfl, fun w' hSw => ?hy7⟩) (by assumption) ?rest7
    case hy7 => ((try dsimp only at hSw); go_simp; (try with_reducible rfl))
    simp only [Act.put]
    refine wpAnyH_take (i := 8) (v := ?v8) rfl (by kernel_rfl) (by kernel_rfl) (by kernel_rfl) (fun _ _ _ h => h) (Or.inl ⟨by kernel_rfl, fun w' hSw => ?hy8⟩) (by assumption) ?rest8
    case hy8 => ((try dsimp only at hSw); go_simp; (try with_reducible rfl))
    simp only [Act.put]
    refine wpAnyH_take (i := 9) (v := undef) rfl (by kernel_rfl) (by kernel_rfl) (by kernel_rfl) (fun _ _ _ h => h) (Or.inr ⟨by kernel_rfl, rfl⟩) (by assumption) ?_
    simp only [Act.put]
    refine wpAnyH_take (i := 10) (v := undef) rfl (by kernel_rfl) (by kernel_rfl) (by kernel_rfl) (fun _ _ _ h => h) (Or.inr ⟨by kernel_rfl, rfl⟩) (by assumption) ?_
    simp only [Act.put]
    refine wpAnyH_take (i := 11) (v := undef) rfl (by kernel_rfl) (by kernel_rfl) (by kernel_rfl) (fun _ _ _ h => h) (Or.inr ⟨by kernel_rfl, rfl⟩) (by assumption) ?_
    simp only [Act.put]
    refine wpAnyH_take (i := 12) (v := undef) rfl (by kernel_rfl) (by kernel_rfl) (by kernel_rfl) (fun _ _ _ h => h) (Or.inr ⟨by kernel_rfl, rfl⟩) (by assumption) ?_
    simp only [Act.put]
    refine wpAnyH_take (i := 13) (v := undef) rfl (by kernel_rfl) (by kernel_rfl) (by kernel_rfl) (fun _ _ _ h => h) (Or.inr ⟨by kernel_rfl, rfl⟩) (by assumption) ?_
    simp only [Act.put]
    refine wpAnyH_take (i := 14) (v := undef) rfl (by kernel_rfl) (by kernel_rfl) (by kernel_rfl) (fun _ _ _ h => h) (Or.inr ⟨by kernel_rfl, rfl⟩) (by assumption) ?_
    simp only [Act.put]
    refine wpAnyH_take (i := 15) (v := undef) rfl (by kernel_rfl) (by kernel_rfl) (by kernel_rfl) (fun _ _ _ h => h) (Or.inr ⟨by kernel_rfl, rfl⟩) (by assumption) ?_
    simp only [Act.put]
    refine wpAnyH_take (i := 16) (v := undef) rfl (by kernel_rfl) (by kernel_rfl) (by kernel_rfl) (fun _ _ _ h => h) (Or.inr ⟨by kernel_rfl, rfl⟩) (by assumption) ?_
    simp only [Act.put]
    refine wpAnyH_take (i := 17) (v := undef) rfl (by kernel_rfl) (by kernel_rfl) (by kernel_rfl) (fun _ _ _ h => h) (Or.inr ⟨by kernel_rfl, rfl⟩) (by assumption) ?_
    simp only [Act.put]
    refine wpAnyH_take (i := 18) (v := undef) rfl (by kernel_rfl) (by kernel_rfl) (by kernel_rfl) (fun _ _ _ h => h) (Or.inr ⟨by kernel_rfl, rfl⟩) (by assumption) ?_
    simp only [Act.put]
    refine wpAnyH_take (i := 19) (v := undef) rfl (by kernel_rfl) (by kernel_rfl) (by kernel_rfl) (fun _ _ _ h => h) (Or.inr ⟨by kernel_rfl, rfl⟩) (by assumption) ?_
    simp only [Act.put]
    refine wpAnyH_ready (rs := [20]) (by kernel_rfl) (by simp) ?_
    refine AllReadyH.cons rfl (fun K hK => ?_) AllReadyH.nil
    go_simp
    refine hK.out _ _ (by assumption) (fun hHeld => ?_)
    clear hK K
    refine wpAnyH_ready (rs := [21]) (by kernel_rfl) (by simp) ?_
    refine AllReadyH.cons rfl (fun K hK => ?_) AllReadyH.nil
    go_simp
    refine hK.out _ _ (by assumption) (fun hHeld => ?_)
    clear hK K
    refine wpAnyH_done (by kernel_rfl) ?_ _
    go_wp2
    go_ret
    exact ⟨bool_ret HO.out.symm, (by assumption : _ ∧ Hid (BoxAt w w.heap.size a n c p _)).2.out.1⟩
  · have HF := Lib.hid hu
    obtain ⟨x, rfl, hx⟩ := fit_yes hu
    cases hv : fitB n v
    · have HG := Lib.hid hv
      have HO : Hid (sameZ n p (x : Int) v = false) := Lib.hid (by unfold sameZ; rw [hv, Bool.and_false]; rfl)
      clear hu hv
      go_enter Try.func9, Try.ntmps9
      go_wp2_with fail
      refine wp_region_held_drew (S := (fun W => W.cell? ⟨w.heap.size, 0, none⟩ = some (.slice a n c) ∧ Hid (BoxAt w w.heap.size a n c p W))) (by kernel_rfl) (HS.out 1 _).both0 (fun hHeld => ?_)
      refine wpAnyH_take (i := 0) (v := ?vb0) rfl (by kernel_rfl) (by kernel_rfl) (by kernel_rfl) (fun _ _ _ h => h) (Or.inl ⟨by kernel_rfl, fun w' hSw => ?hyb0⟩) (by assumption) ?restb0
      case hyb0 => ((try dsimp only at hSw); go_simp; (try with_reducible rfl))
      simp only [Act.put]
      refine wpAnyH_take (i := 1) (v := ?vb1) rfl (by kernel_rfl) (by kernel_rfl) (by kernel_rfl) (fun _ _ _ h => h) (Or.inl ⟨by kernel_rfl, fun w' hSw => ?hyb1⟩) (by assumption) ?restb1
      case hyb1 => ((try dsimp only at hSw); go_simp; (try with_reducible rfl))
      simp only [Act.put]
      refine wpAnyH_ready (rs := [2]) (by kernel_rfl) (by simp) ?_
      refine AllReadyH.cons rfl (fun K hK => ?_) AllReadyH.nil
      go_simp
      refine (inRef_any n a c (x : Int) _).mono ?_
      rintro e w1 ⟨rfl, hb1⟩
      rw [HF.out]
      go_wp2_with fail
      refine hK.out _ _ ?hSb2 (fun hHeld => ?restb2)
      case hSb2 => exact (by assumption : _ ∧ Hid (BoxAt w w.heap.size a n c p _)).2.out.both hb1
      clear hK K
      refine wpAnyH_take (i := 3) (v := ?vb3) rfl (by kernel_rfl) (by kernel_rfl) (by kernel_rfl) (fun _ _ _ h => h) (Or.inl ⟨by kernel_rfl, fun w' hSw => ?hyb3⟩) (by assumption) ?restb3
      case hyb3 => ((try dsimp only at hSw); go_simp; (try with_reducible rfl))
      simp only [Act.put]
      refine wpAnyH_take (i := 4) (v := ?vb4) rfl (by kernel_rfl) (by kernel_rfl) (by kernel_rfl) (fun _ _ _ h => h) (Or.inl ⟨by kernel_rfl, fun w' hSw => ?hyb4⟩) (by assumption) ?restb4
      case hyb4 => ((try dsimp only at hSw); go_simp; (try with_reducible rfl))
      simp only [Act.put]
      refine wpAnyH_take (i := 5) (v := ?vb5) rfl (by kernel_rfl) (by kernel_rfl) (by kernel_rfl) (fun _ _ _ h => h) (Or.inl ⟨by kernel_rfl, fun w' hSw => ?hyb5⟩) (by assumption) ?restb5
      case hyb5 => ((try dsimp only at hSw); go_simp; (try with_reducible rfl))
      simp only [Act.put]
      refine wpAnyH_ready (rs := [6]) (by kernel_rfl) (by simp) ?_
      refine AllReadyH.cons rfl (fun K hK => ?_) AllReadyH.nil
      go_simp
      refine (inRef_any n a c v _).mono ?_
      rintro e w2 ⟨rfl, hb1⟩
      rw [HG.out]
      go_wp2_with fail
      refine hK.out _ _ ?hSb6 (fun hHeld => ?restb6)
      case hSb6 => exact (by assumption : _ ∧ Hid (BoxAt w w.heap.size a n c p _)).2.out.both hb1
      clear hK K
      refine wpAnyH_take (i := 7) (v := ?vb7) rfl (by kernel_rfl) (by kernel_rfl) (by kernel_rfl) (fun _ _ _ h => h) (Or.inl ⟨by kernel_rfl, fun w' hSw => ?hyb7⟩) (by assumption) ?restb7
      case hyb7 => ((try dsimp only at hSw); go_simp; (try with_reducible rfl))
      simp only [Act.put]
      refine wpAnyH_take (i := 8) (v := ?vb8) rfl (by kernel_rfl) (by kernel_rfl) (by kernel_rfl) (fun _ _ _ h => h) (Or.inl ⟨by kernel_rfl, fun w' hSw => ?hyb8⟩) (by assumption) ?restb8
      case hyb8 => ((try dsimp only at hSw); go_simp; (try with_reducible rfl))
      simp only [Act.put]
      refine wpAnyH_take (i := 9) (v := undef) rfl (by kernel_rfl) (by kernel_rfl) (by kernel_rfl) (fun _ _ _ h => h) (Or.inr ⟨by kernel_rfl, rfl⟩) (by assumption) ?_
      simp only [Act.put]
      refine wpAnyH_take (i := 10) (v := undef) rfl (by kernel_rfl) (by kernel_rfl) (by kernel_rfl) (fun _ _ _ h => h) (Or.inr ⟨by kernel_rfl, rfl⟩) (by assumption) ?_
      simp only [Act.put]
      refine wpAnyH_take (i := 11) (v := undef) rfl (by kernel_rfl) (by kernel_rfl) (by kernel_rfl) (fun _ _ _ h => h) (Or.inr ⟨by kernel_rfl, rfl⟩) (by assumption) ?_
      simp only [Act.put]
      refine wpAnyH_take (i := 12) (v := undef) rfl (by kernel_rfl) (by kernel_rfl) (by kernel_rfl) (fun _ _ _ h => h) (Or.inr ⟨by kernel_rfl, rfl⟩) (by assumption) ?_
      simp only [Act.put]
      refine wpAnyH_take (i := 13) (v := undef) rfl (by kernel_rfl) (by kernel_rfl) (by kernel_rfl) (fun _ _ _ h => h) (Or.inr ⟨by kernel_rfl, rfl⟩) (by assumption) ?_
      simp only [Act.put]
      refine wpAnyH_take (i := 14) (v := undef) rfl (by kernel_rfl) (by kernel_rfl) (by kernel_rfl) (fun _ _ _ h => h) (Or.inr ⟨by kernel_rfl, rfl⟩) (by assumption) ?_
      simp only [Act.put]
      refine wpAnyH_take (i := 15) (v := undef) rfl (by kernel_rfl) (by kernel_rfl) (by kernel_rfl) (fun _ _ _ h => h) (Or.inr ⟨by kernel_rfl, rfl⟩) (by assumption) ?_
      simp only [Act.put]
      refine wpAnyH_take (i := 16) (v := undef) rfl (by kernel_rfl) (by kernel_rfl) (by kernel_rfl) (fun _ _ _ h => h) (Or.inr ⟨by kernel_rfl, rfl⟩) (by assumption) ?_
      simp only [Act.put]
      refine wpAnyH_take (i := 17) (v := undef) rfl (by kernel_rfl) (by kernel_rfl) (by kernel_rfl) (fun _ _ _ h => h) (Or.inr ⟨by kernel_rfl, rfl⟩) (by assumption) ?_
      simp only [Act.put]
      refine wpAnyH_take (i := 18) (v := undef) rfl (by kernel_rfl) (by kernel_rfl) (by kernel_rfl) (fun _ _ _ h => h) (Or.inr ⟨by kernel_rfl, rfl⟩) (by assumption) ?_
      simp only [Act.put]
      refine wpAnyH_take (i := 19) (v := undef) rfl (by kernel_rfl) (by kernel_rfl) (by kernel_rfl) (fun _ _ _ h => h) (Or.inr ⟨by kernel_rfl, rfl⟩) (by assumption) ?_
      simp only [Act.put]
      refine wpAnyH_ready (rs := [20]) (by kernel_rfl) (by simp) ?_
      refine AllReadyH.cons rfl (fun K hK => ?_) AllReadyH.nil
      go_simp
      refine hK.out _ _ (by assumption) (fun hHeld => ?_)
      clear hK K
      refine wpAnyH_ready (rs := [21]) (by kernel_rfl) (by simp) ?_
      refine AllReadyH.cons rfl (fun K hK => ?_) AllReadyH.nil
      go_simp
      refine hK.out _ _ (by assumption) (fun hHeld => ?_)
      clear hK K
      refine wpAnyH_done (by kernel_rfl) ?_ _
      go_wp2
      go_ret
      exact ⟨bool_ret HO.out.symm, (by assumption : _ ∧ Hid (BoxAt w w.heap.size a n c p _)).2.out.1⟩
    · have HG := Lib.hid hv
      obtain ⟨y, rfl, hy⟩ := fit_yes hv
      have HO : Hid (sameZ n p (x : Int) (y : Int) = ((p x : Int) == (p y : Int))) := Lib.hid (by
        unfold sameZ
        rw [hu, hv, Int.toNat_natCast, Int.toNat_natCast]
        simp only [Bool.and_self, Bool.true_and]
        exact decide_eq_decide.2 ⟨fun e => by omega, fun e => by omega⟩)
      clear hu hv
      have i0 : (0 : Int) ≤ (x : Int) := by omega
      have i1 : (x : Int) < (n : Int) := by omega
      have i2 : (0 : Int) ≤ (y : Int) := by omega
      have i3 : (y : Int) < (n : Int) := by omega
      obtain ⟨b, off, rfl, hbN, -⟩ := (HS.out 1 0).2.2.2.at hx
      have HB : Hid (∀ W, BoxAt w w.heap.size (some ⟨b, off, none⟩) n c p W → W.cell? ⟨w.heap.size, 0, none⟩ = some (.slice (some ⟨b, off, none⟩) n c) ∧ W.cell? ⟨b, off + x, none⟩ = some (.int .i64 (p x : Int)) ∧ W.cell? ⟨b, off + y, none⟩ = some (.int .i64 (p y : Int)) ∧ Hid (BoxAt w w.heap.size (some ⟨b, off, none⟩) n c p W)) := Lib.hid fun W h => by
        obtain ⟨b1, o1, e1, -, d1⟩ := h.2.2.2.at hx
        obtain ⟨b2, o2, e2, -, d2⟩ := h.2.2.2.at hy
        cases e1
        cases e2
        exact ⟨h.2.2.1, d1, d2, Lib.hid h⟩
      clear hbN
      go_enter Try.func9, Try.ntmps9
      go_wp2_with fail
      go_region_held3 (fun W => W.cell? ⟨w.heap.size, 0, none⟩ = some (.slice (some ⟨b, off, none⟩) n c) ∧ W.cell? ⟨b, off + x, none⟩ = some (.int .i64 (p x : Int)) ∧ W.cell? ⟨b, off + y, none⟩ = some (.int .i64 (p y : Int)) ∧ Hid (BoxAt w w.heap.size (some ⟨b, off, none⟩) n c p W))
        (first
          | exact HB.out _ (HS.out 1 _)
          | (go_split_ands; exact HB.out _ ((by assumption : Hid (BoxAt w w.heap.size (some ⟨b, off, none⟩) n c p _)).out.keep hb2))
          | (go_split_ands; exact HB.out _ ((by assumption : Hid (BoxAt w w.heap.size (some ⟨b, off, none⟩) n c p _)).out.keep hb1))
          | go_keep)
        (first
          | (go_at_call_of 22 (x : Int); refine (inRef_any n _ c (x : Int) _).mono ?_; rintro e v1 ⟨rfl, hb1⟩; rw [HF.out])
          | (go_at_call_of 22 (y : Int); refine (inRef_any n _ c (y : Int) _).mono ?_; rintro e v1 ⟨rfl, hb2⟩; rw [HG.out]))
      all_goals go_wp2
      all_goals go_ret
      all_goals exact ⟨bool_ret HO.out.symm, (by assumption : _ ∧ _ ∧ _ ∧ Hid (BoxAt w w.heap.size (some ⟨b, off, none⟩) n c p _)).2.2.2.out.1⟩
end Go.Proofs.Ytnnicfjlakpghaa
