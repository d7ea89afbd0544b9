/- The document's heap in memory: a struct of two rows; contracts of its Room, Has, Len, Push, Raise, Drop. -/
import Derived.Test.YtndljbkjcgfdcaaHeapQ
namespace Go.Proofs.Ytndljbkjcgfdcaa
open Go.RowKit Go.ChangeShapes NdPure HpPure HeapPure
/-- Where the document's heap lies. -/
structure Rb where
  b : Nat
  gI : Nat
  gY : Nat
def encOpt (o : Option Int) : Value := .bool o.isSome
def RQ (R : Rb) (k : Nat) : Prop := k = R.b ∨ k = R.gI ∨ k = R.gY
def RfAt (R : Rb) (W : World) (A : List (Option Int)) : Prop :=
  A.length ≤ 4096 ∧ ∃ Y : List Int, Y.length = A.length ∧ (∀ (v : Nat) k, A[v]? = some (some k) → Y[v]? = some k) ∧ RowIs R.b W [.slice (some ⟨R.gI, 0, none⟩) A.length A.length, .slice (some ⟨R.gY, 0, none⟩) A.length A.length] ∧
    RowIs R.gI W (A.map encOpt) ∧ RowIs R.gY W (Y.map encZ) ∧ (R.gI < W.heap.size ∧ R.gY < W.heap.size) ∧ (R.b ≠ R.gI ∧ R.b ≠ R.gY ∧ R.gI ≠ R.gY)
section
variable {R : Rb} {W W' : World} {A : List (Option Int)}
theorem RfAt.lt (h : RfAt R W A) : ∀ k, RQ R k → k < W.heap.size := by
  obtain ⟨h0, Y, h1, h2, h3, h4, h5, h6, h7⟩ := h
  intro k hk
  rcases hk with rfl | rfl | rfl
  · exact h3.lt (by simp)
  · exact h6.1
  · exact h6.2
theorem RfAt.same (h : RfAt R W A) (hk : ∀ k, RQ R k → W'.heap[k]? = W.heap[k]?) (hs : ∀ k, RQ R k → k < W'.heap.size) : RfAt R W' A := by
  obtain ⟨h0, Y, h1, h2, h3, h4, h5, h6, h7⟩ := h
  exact ⟨h0, Y, h1, h2, row_same h3 (hk _ (Or.inl rfl)), row_same h4 (hk _ (Or.inr (Or.inl rfl))), row_same h5 (hk _ (Or.inr (Or.inr rfl))), ⟨hs _ (Or.inr (Or.inl rfl)), hs _ (Or.inr (Or.inr rfl))⟩, h7⟩
theorem RfAt.keep (h : RfAt R W A) (hb : Below W.heap.size W W') : RfAt R W' A := h.same (fun k hk => hb.block k (h.lt k hk)) (fun k hk => Nat.lt_of_lt_of_le (h.lt k hk) hb.size)
theorem RfAt.cells (h : RfAt R W A) : (W.cell? ⟨R.b, 0, none⟩ = some (.slice (some ⟨R.gI, 0, none⟩) A.length A.length) ∧ W.cell? ⟨R.b, 1, none⟩ = some (.slice (some ⟨R.gY, 0, none⟩) A.length A.length)) ∧ (R.b < W.heap.size ∧ R.gI < W.heap.size ∧ R.gY < W.heap.size) ∧ (R.b ≠ R.gI ∧ R.gI ≠ R.b ∧ R.b ≠ R.gY ∧ R.gY ≠ R.b ∧ R.gI ≠ R.gY ∧ R.gY ≠ R.gI) := by
  obtain ⟨h0, Y, h1, h2, h3, h4, h5, h6, n1, n2, n3⟩ := h
  exact ⟨⟨(h3 0 (by simp)).1, (h3 1 (by simp)).1⟩, ⟨h3.lt (by simp), h6⟩, n1, fun e => n1 e.symm, n2, fun e => n2 e.symm, n3, fun e => n3 e.symm⟩
theorem RfAt.get (h : RfAt R W A) {u : Nat} {o : Option Int} (hu : A[u]? = some o) : (W.cell? ⟨R.gI, u, none⟩ = some (.bool o.isSome) ∧ W.frozen? ⟨R.gI, u, none⟩ = false) ∧ ∃ z, W.cell? ⟨R.gY, u, none⟩ = some (.int .i64 z) ∧ W.frozen? ⟨R.gY, u, none⟩ = false ∧ ∀ k, o = some k → z = k := by
  obtain ⟨h0, Y, h1, h2, h3, h4, h5, h6, n1, n2, n3⟩ := h
  obtain ⟨hl, he⟩ := List.getElem?_eq_some_iff.1 hu
  have g1 := h4 u (by simpa using hl)
  rw [List.getElem_map, he] at g1
  have hY : u < Y.length := by omega
  have g2 := h5 u (by simpa using hY)
  rw [List.getElem_map] at g2
  refine ⟨g1, Y[u], g2.1, g2.2, fun k e => ?_⟩
  have := h2 u k (by rw [hu, e])
  rw [List.getElem?_eq_getElem hY] at this
  exact Option.some.inj this
/-- Both places of a vertex are laid anew. -/
theorem RfAt.lay (h : RfAt R W A) {u : Nat} (hu : u < A.length) (o : Option Int) (key : Int) (ho : ∀ k, o = some k → k = key) :
    Turn (RQ R) W ((W.setCell ⟨R.gI, u, none⟩ (.bool o.isSome)).setCell ⟨R.gY, u, none⟩ (.int .i64 key)) ∧ RfAt R ((W.setCell ⟨R.gI, u, none⟩ (.bool o.isSome)).setCell ⟨R.gY, u, none⟩ (.int .i64 key)) (A.set u o) := by
  obtain ⟨h0, Y, h1, h2, h3, h4, h5, h6, n1, n2, n3⟩ := h
  refine ⟨(Turn.cell W u _ (Or.inr (Or.inl rfl))).trans (Turn.cell _ u _ (Or.inr (Or.inr rfl))) (fun _ e => Or.inl e), by simpa using h0, Y.set u key, by simp [h1], fun v k hv => ?_, ?_, ?_, ?_, ⟨by simpa using h6.1, by simpa using h6.2⟩, n1, n2, n3⟩
  · by_cases e : v = u
    · subst e
      rw [List.getElem?_set, if_pos rfl, if_pos hu] at hv
      rw [List.getElem?_set, if_pos rfl, if_pos (by omega), ho k (Option.some.inj hv)]
    · rw [List.getElem?_set, if_neg (fun e2 => e e2.symm)] at hv ⊢
      exact h2 v k hv
  · rw [List.length_set]
    exact row_same h3 ((cell_other (by exact n2)).trans (cell_other (by exact n1)))
  · have := RowIs.set h4 (k := u) (by simpa using hu) (encOpt o)
    rw [← List.map_set] at this
    exact row_same this (cell_other n3)
  · have h5' : RowIs R.gY (W.setCell ⟨R.gI, u, none⟩ (.bool o.isSome)) (Y.map encZ) := row_same h5 (cell_other (fun e => n3 e.symm))
    have := RowIs.set h5' (k := u) (by simp; omega) (encZ key)
    rw [← List.map_set] at this
    exact this
/-- The key of a vertex is laid anew. -/
theorem RfAt.layY (h : RfAt R W A) {u : Nat} {k0 : Int} (hu : A[u]? = some (some k0)) (key : Int) :
    Turn (RQ R) W (W.setCell ⟨R.gY, u, none⟩ (.int .i64 key)) ∧ RfAt R (W.setCell ⟨R.gY, u, none⟩ (.int .i64 key)) (A.set u (some key)) := by
  obtain ⟨h0, Y, h1, h2, h3, h4, h5, h6, n1, n2, n3⟩ := h
  have hul := (List.getElem?_eq_some_iff.1 hu).1
  refine ⟨Turn.cell W u _ (Or.inr (Or.inr rfl)), by simpa using h0, Y.set u key, by simp [h1], fun v k hv => ?_, ?_, ?_, ?_, ⟨by simpa using h6.1, by simpa using h6.2⟩, n1, n2, n3⟩
  · by_cases e : v = u
    · subst e
      rw [List.getElem?_set, if_pos rfl, if_pos hul] at hv
      rw [List.getElem?_set, if_pos rfl, if_pos (by omega), Option.some.inj (Option.some.inj hv)]
    · rw [List.getElem?_set, if_neg (fun e2 => e e2.symm)] at hv ⊢
      exact h2 v k hv
  · rw [List.length_set]
    exact row_same h3 (cell_other n2)
  · have e : (A.set u (some key)).map encOpt = A.map encOpt := by
      rw [List.map_set]
      refine List.ext_getElem? fun i => ?_
      rw [List.getElem?_set]
      split
      · next e => subst e; rw [if_pos (by simpa using hul), List.getElem?_map, hu]; rfl
      · rfl
    rw [e]
    exact row_same h4 (cell_other n3)
  · have := RowIs.set h5 (k := u) (by simp; omega) (encZ key)
    rw [← List.map_set] at this
    exact this
set_option maxHeartbeats 1000000 in
theorem hasR_run (W : World) (v : Int) (h : RfAt R W A) :
    Calls Try.prog 15 #[.pointer (some ⟨R.b, 0, none⟩), .int .i64 v] W fun e W' => e = .returned (.bool (inA A v)) ∧ W = W' := by
  obtain ⟨⟨c0, -⟩, ⟨hb, hI, -⟩, -⟩ := h.cells
  rcases three A v with h0 | h0 | ⟨u, rfl, hu, h0⟩
  · have HF := Lib.hid (in_low (A := A) h0)
    have a1 : ¬ v ≥ 0 := by omega
    clear h h0
    go_enter Try.func15, Try.ntmps15
    go_wp2
    go_ret
    exact ⟨bool_ret HF.out.symm, rfl⟩
  · have HF := Lib.hid (in_past (A := A) h0)
    have a1 : v ≥ 0 := by omega
    clear h
    go_enter Try.func15, Try.ntmps15
    go_wp2
    go_ret
    exact ⟨bool_ret HF.out.symm, rfl⟩
  · have a1 : (u : Int) ≥ 0 := by omega
    have a2 : (u : Int) < (A.length : Int) := by omega
    rcases h0 with h0 | ⟨k, h0⟩
    · have HF := Lib.hid (in_none h0)
      have d0 : W.cell? ⟨R.gI, u, none⟩ = some (.bool false) := (h.get h0).1.1
      clear h h0 hu
      go_enter Try.func15, Try.ntmps15
      go_wp2
      go_ret
      exact ⟨bool_ret HF.out.symm, rfl⟩
    · have HF := Lib.hid (in_of h0)
      have d0 : W.cell? ⟨R.gI, u, none⟩ = some (.bool true) := (h.get h0).1.1
      clear h h0 hu
      go_enter Try.func15, Try.ntmps15
      go_wp2
      go_ret
      exact ⟨bool_ret HF.out.symm, rfl⟩
set_option maxHeartbeats 1000000 in
theorem pushR_run (W : World) (v key : Int) (h : RfAt R W A) :
    Calls Try.prog 23 #[.pointer (some ⟨R.b, 0, none⟩), .int .i64 v, .int .i64 key] W fun e W' => e = .returned (.bool (pushB A v)) ∧ Turn (RQ R) W W' ∧ RfAt R W' (pushA A v key) := by
  have hno : pushB A v = false → Turn (RQ R) W W ∧ RfAt R W (pushA A v key) := fun e => ⟨Turn.refl _ _, by unfold pushA; rw [e]; exact h⟩
  obtain ⟨⟨c0, c1⟩, ⟨hb, hI, hY⟩, n1, n2, n3, n4, n5, n6⟩ := h.cells
  rcases three A v with h0 | h0 | ⟨u, rfl, hu, h0⟩
  · have HF := Lib.hid (push_low (A := A) h0)
    have HG := Lib.hid (hno (push_low h0))
    clear h hno
    go_enter Try.func23, Try.ntmps23
    go_wp2
    go_ret
    exact ⟨bool_ret HF.out.symm, HG.out⟩
  · have HF := Lib.hid (push_past (A := A) h0)
    have HG := Lib.hid (hno (push_past h0))
    have a1 : ¬ v < 0 := by omega
    have a2 : v ≥ (A.length : Int) := by omega
    clear h hno h0
    go_enter Try.func23, Try.ntmps23
    go_wp2
    go_ret
    exact ⟨bool_ret HF.out.symm, HG.out⟩
  · have a0 : (0 : Int) ≤ (u : Int) := by omega
    have a1 : ¬ (u : Int) < 0 := by omega
    have a2 : ¬ (u : Int) ≥ (A.length : Int) := by omega
    have a3 : (u : Int) < (A.length : Int) := by omega
    rcases h0 with h0 | ⟨k, h0⟩
    · have HF := Lib.hid (push_yes h0)
      obtain ⟨⟨d0, f0⟩, z, d1, f1, -⟩ := h.get h0
      replace d0 : W.cell? ⟨R.gI, u, none⟩ = some (.bool false) := d0
      have HG := Lib.hid (h.lay hu (some key) key (fun k e => (Option.some.inj e).symm))
      have HA : Hid (pushA A (u : Int) key = A.set u (some key)) := Lib.hid (by unfold pushA; rw [push_yes h0, if_pos rfl, Int.toNat_natCast])
      clear h hno h0 hu
      go_enter Try.func23, Try.ntmps23
      go_wp2
      go_ret
      exact ⟨bool_ret HF.out.symm, by rw [HA.out]; exact HG.out⟩
    · have HF := Lib.hid (push_in (in_of h0))
      have HG := Lib.hid (hno (push_in (in_of h0)))
      have d0 : W.cell? ⟨R.gI, u, none⟩ = some (.bool true) := (h.get h0).1.1
      clear h hno h0 hu
      go_enter Try.func23, Try.ntmps23
      go_wp2
      go_ret
      exact ⟨bool_ret HF.out.symm, HG.out⟩
set_option maxHeartbeats 1000000 in
theorem raiseR_run (W : World) (v key : Int) (h : RfAt R W A) :
    Calls Try.prog 24 #[.pointer (some ⟨R.b, 0, none⟩), .int .i64 v, .int .i64 key] W fun e W' => e = .returned (.bool (raiseB A v key)) ∧ Turn (RQ R) W W' ∧ RfAt R W' (raiseA A v key) := by
  have HR := Lib.hid h
  have hno : raiseB A v key = false → Turn (RQ R) W W ∧ RfAt R W (raiseA A v key) := fun e => ⟨Turn.refl _ _, by unfold raiseA; rw [e]; exact h⟩
  obtain ⟨⟨c0, c1⟩, ⟨hb, hI, hY⟩, n1, n2, n3, n4, n5, n6⟩ := h.cells
  cases hh : inA A v
  · have hr : raiseB A v key = false := by unfold raiseB; rw [hh]; rfl
    have HF := Lib.hid hr
    have HG := Lib.hid (hno hr)
    have HN := Lib.hid hh
    clear h hno hh hr
    go_enter Try.func24, Try.ntmps24
    go_wp2_with (first | (go_at_call 15; refine (hasR_run _ _ HR.out).mono ?_; rintro e w' ⟨rfl, rfl⟩; rw [HN.out]))
    go_ret
    exact ⟨bool_ret HF.out.symm, HG.out⟩
  obtain ⟨u, k, rfl, h0, hu⟩ := in_yes hh
  have HN := Lib.hid hh
  obtain ⟨-, z, d1, f1, hz⟩ := h.get h0
  obtain rfl := hz k rfl
  have a0 : (0 : Int) ≤ (u : Int) := by omega
  have a3 : (u : Int) < (A.length : Int) := by omega
  by_cases hk : key < z
  · have hr : raiseB A (u : Int) key = false := by unfold raiseB; rw [key_of h0, decide_eq_false (by omega), Bool.and_false]
    have HF := Lib.hid hr
    have HG := Lib.hid (hno hr)
    have a1 : z > key := hk
    clear h hno hh hr h0 hu hz hk
    go_enter Try.func24, Try.ntmps24
    go_wp2_with (first | (go_at_call 15; refine (hasR_run _ _ HR.out).mono ?_; rintro e w' ⟨rfl, rfl⟩; rw [HN.out]))
    go_ret
    exact ⟨bool_ret HF.out.symm, HG.out⟩
  · have hr : raiseB A (u : Int) key = true := by unfold raiseB; rw [key_of h0, hh, decide_eq_true (by omega)]; rfl
    have HF := Lib.hid hr
    have HG := Lib.hid (h.layY h0 key)
    have HA : Hid (raiseA A (u : Int) key = A.set u (some key)) := Lib.hid (by unfold raiseA; rw [hr, if_pos rfl, Int.toNat_natCast])
    have a1 : ¬ z > key := hk
    clear h hno hh hr h0 hu hz hk
    go_enter Try.func24, Try.ntmps24
    go_wp2_with (first | (go_at_call 15; refine (hasR_run _ _ HR.out).mono ?_; rintro e w' ⟨rfl, rfl⟩; rw [HN.out]))
    go_ret
    exact ⟨bool_ret HF.out.symm, by rw [HA.out]; exact HG.out⟩
set_option maxHeartbeats 1000000 in
theorem dropR_run (W : World) (v : Int) (h : RfAt R W A) :
    Calls Try.prog 25 #[.pointer (some ⟨R.b, 0, none⟩), .int .i64 v] W fun e W' => e = .returned (.bool (inA A v)) ∧ Turn (RQ R) W W' ∧ RfAt R W' (dropA A v) := by
  have HR := Lib.hid h
  obtain ⟨⟨c0, c1⟩, ⟨hb, hI, hY⟩, n1, n2, n3, n4, n5, n6⟩ := h.cells
  cases hh : inA A v
  · have HG : Hid (Turn (RQ R) W W ∧ RfAt R W (dropA A v)) := Lib.hid ⟨Turn.refl _ _, by unfold dropA; rw [hh]; exact h⟩
    have HN := Lib.hid hh
    clear h hh
    go_enter Try.func25, Try.ntmps25
    go_wp2_with (first | (go_at_call 15; refine (hasR_run _ _ HR.out).mono ?_; rintro e w' ⟨rfl, rfl⟩; rw [HN.out]))
    go_ret
    exact ⟨rfl, HG.out⟩
  obtain ⟨u, k, rfl, h0, hu⟩ := in_yes hh
  have HN := Lib.hid hh
  obtain ⟨⟨d0, f0⟩, z, d1, f1, hz⟩ := h.get h0
  replace d0 : W.cell? ⟨R.gI, u, none⟩ = some (.bool true) := d0
  have a0 : (0 : Int) ≤ (u : Int) := by omega
  have a3 : (u : Int) < (A.length : Int) := by omega
  have HG := Lib.hid (h.lay hu none 0 (fun k e => by cases e))
  have HA : Hid (dropA A (u : Int) = A.set u none) := Lib.hid (by unfold dropA; rw [hh, if_pos rfl, Int.toNat_natCast])
  clear h hh h0 hu hz
  go_enter Try.func25, Try.ntmps25
  go_wp2_with (first | (go_at_call 15; refine (hasR_run _ _ HR.out).mono ?_; rintro e w' ⟨rfl, rfl⟩; rw [HN.out]))
  go_ret
  exact ⟨rfl, by rw [HA.out]; exact HG.out⟩
theorem take_cnt {A : List (Option Int)} {k : Nat} (h : k < A.length) : (A.take (k + 1)).countP Option.isSome = (A.take k).countP Option.isSome + (if A[k].isSome = true then 1 else 0) := by
  rw [List.take_add_one, List.countP_append, List.getElem?_eq_getElem h]
  congr 1
  cases A[k] <;> rfl
set_option maxHeartbeats 1000000 in
theorem lenR_run (W : World) (h : RfAt R W A) :
    Calls Try.prog 12 #[.pointer (some ⟨R.b, 0, none⟩)] W fun e W' => e = .returned (.int .i64 (lenA A : Int)) ∧ W = W' := by
  have HR := Lib.hid h
  have hle := h.1
  obtain ⟨⟨c0, -⟩, ⟨hb, hI, -⟩, -⟩ := h.cells
  clear h
  go_enter Try.func12, Try.ntmps12
  go_wp2
  go_loopw [3, 4] (fun c i wr => ∃ k : Nat, k ≤ A.length ∧ i = .int .i64 k ∧ c = .int .i64 ((A.take k).countP Option.isSome : Int) ∧ W = wr) (fun _ i _ => A.length - (intOf i).toNat)
  case atStart => exact ⟨0, Nat.zero_le _, rfl, rfl, rfl⟩
  case round =>
    obtain ⟨k, hk, rfl, rfl, rfl⟩ := hrel
    have i0 : (0 : Int) ≤ (k : Int) := by omega
    have hcl : (A.take k).countP Option.isSome ≤ k := Nat.le_trans List.countP_le_length (List.length_take_le _ _)
    by_cases hlt : k < A.length
    · have i1 : (k : Int) < (A.length : Int) := by omega
      have hu : A[k]? = some A[k] := List.getElem?_eq_getElem hlt
      have d0 := (HR.out.get hu).1.1
      have HC := Lib.hid (take_cnt hlt)
      clear hu
      cases ho : A[k].isSome
      · rw [ho] at d0 HC
        have HC2 : Hid ((A.take (k + 1)).countP Option.isSome = (A.take k).countP Option.isSome) := Lib.hid HC.out
        clear HC ho
        generalize (A.take k).countP Option.isSome = c at *
        go_wp2
        go_roundw
        case rel => exact ⟨k + 1, by omega, by go_num, by rw [HC2.out], by first | rfl | trivial⟩
        case measure => (simp [intOf] <;> omega)
      · rw [ho] at d0 HC
        have HC2 : Hid ((A.take (k + 1)).countP Option.isSome = (A.take k).countP Option.isSome + 1) := Lib.hid HC.out
        clear HC ho
        generalize (A.take k).countP Option.isSome = c at *
        go_wp2
        go_roundw
        case rel => exact ⟨k + 1, by omega, by go_num, by rw [HC2.out]; go_num, by first | rfl | trivial⟩
        case measure => (simp [intOf] <;> omega)
    · have hke : k = A.length := by omega
      subst hke
      have HE : Hid ((A.take A.length).countP Option.isSome = lenA A) := Lib.hid (by rw [List.take_length]; rfl)
      generalize (A.take A.length).countP Option.isSome = c at *
      go_wp2
      go_ret
      exact ⟨ret_i (by rw [HE.out]), rfl⟩
end
end Go.Proofs.Ytndljbkjcgfdcaa
