/- Contracts of the document's heap: Pop, Room, New. -/
import Derived.Test.YtndljbkjcgfdcaaHeapFirst
namespace Go.Proofs.Ytndljbkjcgfdcaa
open Go.RowKit Go.ChangeShapes NdPure HpPure HeapPure
section
variable {R : Rb} {W W' : World} {A : List (Option Int)}
/-- A block of three cells is laid: what lay elsewhere stays. -/
theorem turn_three (W : World) (B : Nat) (v k : Int) (o : Bool) : Turn (fun x => x = B) W (((W.setCell ⟨B, 0, none⟩ (.int .i64 v)).setCell ⟨B, 1, none⟩ (.int .i64 k)).setCell ⟨B, 2, none⟩ (.bool o)) :=
  ((Turn.cell (O := fun x => x = B) W 0 _ rfl).trans (Turn.cell (O := fun x => x = B) _ 1 _ rfl) (fun _ e => Or.inl e)).trans (Turn.cell (O := fun x => x = B) _ 2 _ rfl) (fun _ e => Or.inl e)
/-- A result's place is laid. -/
def put3 (W : World) (B : Nat) (v k : Int) (o : Bool) : World := ((W.setCell ⟨B, 0, none⟩ (.int .i64 v)).setCell ⟨B, 1, none⟩ (.int .i64 k)).setCell ⟨B, 2, none⟩ (.bool o)
theorem pop_end {w : World} {A' : List (Option Int)} {B : Nat} (ht : Turn (RQ R) w W) (hr : RfAt R W A') (hB : w.heap.size ≤ B) (hn : ∀ k, RQ R k → k ≠ B) (v k : Int) (o : Bool) :
    Turn (RQ R) w (put3 W B v k o) ∧ RfAt R (put3 W B v k o) A' := by
  have h3 := turn_three W B v k o
  exact ⟨ht.trans h3 (fun x e => Or.inr (by rw [show x = B from e]; exact hB)), hr.same (fun x e => h3.2.2.2.2 x (hr.lt x e) (fun e2 => hn x e e2)) (fun x e => Nat.lt_of_lt_of_le (hr.lt x e) h3.size)⟩
theorem pop_alloc {w : World} {A' : List (Option Int)} (h : Turn (RQ R) w W ∧ RfAt R W A') (o : Obj) : Turn (RQ R) w (W.alloc o) ∧ RfAt R (W.alloc o) A' := by
  have hb := (Below.refl W.heap.size W).alloc (Nat.le_refl _) o
  exact ⟨h.1.trans (Turn.ofBelow (O := RQ R) hb) (fun _ e => Or.inl e), h.2.keep hb⟩
set_option maxRecDepth 100000 in
set_option maxHeartbeats 4000000 in
theorem popR_run (W : World) (h : RfAt R W A) :
    Calls Try.prog 26 #[.pointer (some ⟨R.b, 0, none⟩)] W fun e W' => e = .returned (.agg #[.int .i64 (topV A), .int .i64 (topK A), .bool (topB A)]) ∧ Turn (RQ R) W W' ∧ RfAt R W' (popA A) := by
  have hz := (Below.refl W.heap.size W).alloc (Nat.le_refl _) (.cells #[.int .i64 0, .int .i64 0, .bool false] 55)
  have HR := Lib.hid (h.keep hz)
  have HLt := Lib.hid h.lt
  have HZ := Lib.hid hz
  have H0 := Lib.hid (ThreeAt.new W (.int .i64 0) (.int .i64 0) (.bool false) 55)
  have hB0 : W.heap.size < (W.alloc (.cells #[.int .i64 0, .int .i64 0, .bool false] 55)).heap.size := by simp
  clear h hz
  cases hf : firstA A with
  | none =>
    have H3 : Hid (topB A = false) := Lib.hid (by unfold topB; rw [hf]; rfl)
    have HA : Hid (popA A = A) := Lib.hid (by unfold popA; rw [hf])
    clear hf
    generalize hv : topV A = v at *
    have HV := Lib.hid hv
    clear hv
    generalize hk : topK A = k at *
    have HK := Lib.hid hk
    clear hk
    go_enter Try.func26, Try.ntmps26
    go_wp2_with fail
    refine (firstR_run _ HR.out).mono ?_
    rintro e w2 ⟨rfl, hb2⟩
    rw [HV.out, HK.out, H3.out]
    have hz2 := hb2.size
    have hal := (Below.refl w2.heap.size w2).alloc (Nat.le_refl _) (.cells #[.int .i64 v, .int .i64 k, .bool false] 55)
    have h0 := H0.out.on hb2 (by simp)
    have hB2 : W.heap.size < w2.heap.size := by simp at hz2 hB0; omega
    obtain ⟨z0, z1, z2, g0, g1, g2⟩ := h0
    have HE : Hid (∀ o', Turn (RQ R) W ((put3 w2 W.heap.size v k false).alloc o') ∧ RfAt R ((put3 w2 W.heap.size v k false).alloc o') A) := Lib.hid fun o' => pop_alloc (pop_end (Turn.ofBelow (O := RQ R) (HZ.out.trans (hb2.mono (by simp)))) (HR.out.keep hb2) (Nat.le_refl _) (fun x e e2 => by have := HLt.out x e; omega) v k false) o'
    clear hb2 HR H0 hz2 hal hB0 HLt HZ
    simp only [put3] at HE
    generalize hB : W.heap.size = B0 at *
    go_wp2
    exact bodyPost_ret (v := .agg #[.int .i64 v, .int .i64 k, .bool false]) (by simp [results, Try.results26, go_sem, z0, z1, z2, hB2]) rfl ⟨by rw [H3.out], (HE.out _).1, by rw [HA.out]; exact (HE.out _).2⟩
  | some r =>
    obtain ⟨m, y⟩ := r
    have H3 : Hid (topB A = true) := Lib.hid (by unfold topB; rw [hf]; rfl)
    have hin : inA A (m : Int) = true := by
      rcases first_spec A with ⟨h1, -⟩ | ⟨m', y', h1, h2, h3⟩
      · rw [h1] at hf; cases hf
      · rw [h1] at hf; cases hf
        exact in_of h2
    have HA : Hid (popA A = dropA A (m : Int)) := Lib.hid (by unfold popA dropA; rw [hf, if_pos hin, Int.toNat_natCast])
    have HV : Hid (topV A = (m : Int)) := Lib.hid (by unfold topV; rw [hf])
    have HK : Hid (topK A = y) := Lib.hid (by unfold topK; rw [hf])
    clear hf hin
    go_enter Try.func26, Try.ntmps26
    go_wp2_with fail
    refine (firstR_run _ HR.out).mono ?_
    rintro e w2 ⟨rfl, hb2⟩
    rw [HV.out, HK.out, H3.out]
    have hz2 := hb2.size
    have hal := (Below.refl w2.heap.size w2).alloc (Nat.le_refl _) (.cells #[.int .i64 (m : Int), .int .i64 y, .bool true] 55)
    have hB2 : W.heap.size < w2.heap.size := by simp at hz2 hB0; omega
    have T0 := Lib.hid ((H0.out.on hb2 (by simp)).on hal hB2)
    have T3 := Lib.hid (ThreeAt.new w2 (.int .i64 (m : Int)) (.int .i64 y) (.bool true) 55)
    have HR3 := Lib.hid ((HR.out.keep hb2).keep hal)
    have HT3 : Hid (Turn (RQ R) W (w2.alloc (.cells #[.int .i64 (m : Int), .int .i64 y, .bool true] 55))) := Lib.hid (Turn.ofBelow ((HZ.out.trans (hb2.mono (by simp))).trans (hal.mono (by omega))))
    clear hb2 HR H0 hz2 hal hB0 HZ
    go_wp2_with fail
    refine (dropR_run _ (m : Int) HR3.out).mono ?_
    rintro e w4 ⟨rfl, ht4, hr4⟩
    have U0 := Lib.hid (three_keep T0.out (ht4.2.2.2.2 _ (by simp; omega) (fun e => by have := HLt.out _ e; omega)))
    have U3 := Lib.hid (three_keep T3.out (ht4.2.2.2.2 _ (by simp) (fun e => by have := HLt.out _ e; omega)))
    have HE : Hid (Turn (RQ R) W (put3 w4 W.heap.size (m : Int) y true) ∧ RfAt R (put3 w4 W.heap.size (m : Int) y true) (popA A)) := Lib.hid (by
      rw [HA.out]
      exact pop_end (HT3.out.trans ht4 (fun _ e => Or.inl e)) hr4 (Nat.le_refl _) (fun x e e2 => by have := HLt.out x e; omega) (m : Int) y true)
    clear ht4 hr4 T0 T3 HR3 HT3 HLt
    obtain ⟨z0, z1, z2, g0, g1, g2⟩ := U0.out
    obtain ⟨y0, y1, y2, -⟩ := U3.out
    have hb0 := U0.out.lt
    have hb3 := U3.out.lt
    have n1 : W.heap.size ≠ w2.heap.size := by omega
    have n2 : w2.heap.size ≠ W.heap.size := by omega
    clear U0 U3 hB2
    simp only [put3] at HE
    generalize hB : W.heap.size = B0 at *
    generalize w2.heap.size = B3 at *
    go_wp2
    exact bodyPost_ret (v := .agg #[.int .i64 m, .int .i64 y, .bool true]) (by simp [results, Try.results26, go_sem, z0, z1, z2, hb0, n1, n2]) rfl ⟨by rw [HV.out, HK.out, H3.out], HE.out.1, HE.out.2⟩
end
theorem roomR_run (n : Int) (w : World) : Calls Try.prog 22 #[.int .i64 n] w fun e w' => e = .returned (.int .i64 (roomH n : Int)) ∧ w = w' := by
  by_cases a : n < 0
  · have hz : Hid (roomH n = 0) := Lib.hid (by unfold roomH; omega)
    have a1 : n < 4096 := by omega
    have a2 : n ≤ 4096 := by omega
    have a3 : ¬ 4096 < n := by omega
    have a4 : ¬ 0 < n := by omega
    have a5 : n ≤ 0 := by omega
    go_enter Try.func22, Try.ntmps22
    go_wp2
    go_ret
    exact ⟨ret_i (by rw [hz.out]; rfl), rfl⟩
  by_cases c : 4096 < n
  · have hz : Hid (roomH n = 4096) := Lib.hid (by unfold roomH; omega)
    have a1 : ¬ n < 4096 := by omega
    have a2 : ¬ n ≤ 4096 := by omega
    clear a
    go_enter Try.func22, Try.ntmps22
    go_wp2
    go_ret
    exact ⟨ret_i (by rw [hz.out]; rfl), rfl⟩
  have hz : Hid ((roomH n : Int) = n) := Lib.hid (by unfold roomH; omega)
  by_cases d : n = 4096
  · subst d
    go_enter Try.func22, Try.ntmps22
    go_wp2
    go_ret
    exact ⟨ret_i (by rw [hz.out]), rfl⟩
  by_cases d0 : n = 0
  · subst d0
    go_enter Try.func22, Try.ntmps22
    go_wp2
    go_ret
    exact ⟨ret_i (by rw [hz.out]), rfl⟩
  have a1 : n < 4096 := by omega
  have a2 : n ≤ 4096 := by omega
  have a3 : 0 < n := by omega
  have a4 : ¬ n ≤ 0 := by omega
  have a5 : ¬ n < 0 := by omega
  have a6 : 0 ≤ n := by omega
  clear a c d d0
  go_enter Try.func22, Try.ntmps22
  go_wp2
  go_ret
  exact ⟨ret_i (by rw [hz.out]), rfl⟩
/-- What is made so far, in whatever order. -/
def PartsR (r : Nat) (w : World) (oi oy : Option Nat) (W : World) : Prop :=
  Below w.heap.size w W ∧ (∀ x, oi = some x → w.heap.size ≤ x ∧ x < W.heap.size ∧ RowIs x W (List.replicate r (.bool false))) ∧
    (∀ x, oy = some x → w.heap.size ≤ x ∧ x < W.heap.size ∧ RowIs x W (List.replicate r (.int .i64 0))) ∧ ∀ x, oi = some x → oy ≠ some x
section
variable {r : Nat} {w W W1 : World} {oi oy : Option Nat}
theorem PartsR.start : PartsR r w none none w := ⟨Below.refl _ _, fun x e => by simp at e, fun x e => by simp at e, fun x e => by simp at e⟩
theorem PartsR.on (h : PartsR r w oi oy W) (hb : Below W.heap.size W W1) : PartsR r w oi oy W1 := by
  obtain ⟨h1, h3, h4, h6⟩ := h
  have hs := hb.size
  exact ⟨h1.trans (hb.mono h1.size), fun x e => ⟨(h3 x e).1, by have := (h3 x e).2.1; omega, (h3 x e).2.2.on hb (h3 x e).2.1⟩, fun x e => ⟨(h4 x e).1, by have := (h4 x e).2.1; omega, (h4 x e).2.2.on hb (h4 x e).2.1⟩, h6⟩
theorem PartsR.drew (h : PartsR r w oi oy W) : PartsR r w oi oy W.drew := h.on (below_drewN (Below.refl _ _) 1)
theorem PartsR.addI {x : Nat} {T : TypeId} (hx : x = W.heap.size) (h : PartsR r w none oy W) : PartsR r w (some x) oy (W.alloc (.cells (madeCells #[.bool false] r) T)) := by
  subst hx
  obtain ⟨h1, h3, h4, h6⟩ := h.on ((Below.refl _ W).alloc (Nat.le_refl _) (.cells (madeCells #[.bool false] r) T))
  obtain ⟨g1, -, g4, -⟩ := h
  refine ⟨h1, fun x e => ?_, h4, fun x e e2 => ?_⟩
  · cases e
    exact ⟨g1.size, by simp, rowIs_made W _ r T⟩
  · cases e
    have := (g4 _ e2).2.1
    omega
theorem PartsR.addY {x : Nat} {T : TypeId} (hx : x = W.heap.size) (h : PartsR r w oi none W) : PartsR r w oi (some x) (W.alloc (.cells (madeCells #[.int .i64 0] r) T)) := by
  subst hx
  obtain ⟨h1, h3, h4, h6⟩ := h.on ((Below.refl _ W).alloc (Nat.le_refl _) (.cells (madeCells #[.int .i64 0] r) T))
  obtain ⟨g1, g3, -, -⟩ := h
  refine ⟨h1, h3, fun x e => ?_, fun x e e2 => ?_⟩
  · cases e
    exact ⟨g1.size, by simp, rowIs_made W _ r T⟩
  · cases e2
    have := (g3 _ e).2.1
    omega
theorem PartsR.done {gI gY b : Nat} {T : TypeId} (hr : r ≤ 4096) (hb : b = W.heap.size) (h : PartsR r w (some gI) (some gY) W) :
    Below w.heap.size w (W.alloc (.cells #[.slice (some ⟨gI, 0, none⟩) r r, .slice (some ⟨gY, 0, none⟩) r r] T)) ∧ (∀ k, RQ ⟨b, gI, gY⟩ k → w.heap.size ≤ k) ∧ RfAt ⟨b, gI, gY⟩ (W.alloc (.cells #[.slice (some ⟨gI, 0, none⟩) r r, .slice (some ⟨gY, 0, none⟩) r r] T)) (List.replicate r none) := by
  subst hb
  have h' := h.on ((Below.refl _ W).alloc (Nat.le_refl _) (.cells #[.slice (some ⟨gI, 0, none⟩) r r, .slice (some ⟨gY, 0, none⟩) r r] T))
  obtain ⟨g1, g3, g4, g6⟩ := h
  obtain ⟨h1, h3, h4, h6⟩ := h'
  have a2 := (g3 _ rfl).2.1
  have a3 := (g4 _ rfl).2.1
  have b2 := (g3 _ rfl).1
  have b3 := (g4 _ rfl).1
  have d3 : gI ≠ gY := fun e => g6 _ rfl (by rw [e])
  have t := TwoAt.new W (.slice (some ⟨gI, 0, none⟩) r r) (.slice (some ⟨gY, 0, none⟩) r r) T
  have hs := g1.size
  refine ⟨h1, fun k e => ?_, by simpa using hr, List.replicate r 0, by simp, fun v k hv => ?_, ?_, ?_, ?_, ⟨(h3 _ rfl).2.1, (h4 _ rfl).2.1⟩, by show W.heap.size ≠ gI; omega, by show W.heap.size ≠ gY; omega, d3⟩
  · rcases e with e | e | e
    · rw [e]; exact hs
    · rw [e]; exact b2
    · rw [e]; exact b3
  · have := List.mem_of_getElem? hv
    rw [List.mem_replicate] at this
    cases this.2
  · rw [List.length_replicate]
    intro i hi
    match i, hi with
    | 0, _ => exact ⟨t.1, t.2.2.1⟩
    | 1, _ => exact ⟨t.2.1, t.2.2.2⟩
  · rw [List.map_replicate]
    exact (h3 _ rfl).2.2
  · rw [List.map_replicate]
    exact (h4 _ rfl).2.2
theorem PartsR.doneD {gI gY b : Nat} {T : TypeId} (hr : r ≤ 4096) (hb : b = W.heap.size) (h : PartsR r w (some gI) (some gY) W) :
    Below w.heap.size w (W.alloc (.cells #[.slice (some ⟨gI, 0, none⟩) r r, .slice (some ⟨gY, 0, none⟩) r r] T)).drew ∧ (∀ k, RQ ⟨b, gI, gY⟩ k → w.heap.size ≤ k) ∧ RfAt ⟨b, gI, gY⟩ (W.alloc (.cells #[.slice (some ⟨gI, 0, none⟩) r r, .slice (some ⟨gY, 0, none⟩) r r] T)).drew (List.replicate r none) := by
  obtain ⟨h1, h2, h3⟩ := h.done (T := T) hr hb
  exact ⟨below_drewN h1 1, h2, h3.keep (below_drewN (Below.refl _ _) 1)⟩
end
theorem make_bools (k : Nat) (hk : k ≤ 1000000) (w : World) :
    (Instr.makeSlice 29 (.int .i64 (k : Int)) (.int .i64 (k : Int))).run Try.prog w = .ok (.slice (some ⟨w.heap.size, 0, none⟩) k k) (w.alloc (.cells (madeCells #[.bool false] k) 4)) :=
  makeRow Try.underlying29 (z := .bool false) (c := 1) (by kernel_rfl) (by omega) rfl k hk w
set_option maxRecDepth 100000 in
set_option maxHeartbeats 4000000 in
theorem newR_run (n : Int) (w : World) :
    Calls Try.prog 8 #[.int .i64 n] w fun e w' => ∃ R : Rb, e = .returned (.pointer (some ⟨R.b, 0, none⟩)) ∧ Below w.heap.size w w' ∧ (∀ k, RQ R k → w.heap.size ≤ k) ∧ RfAt R w' (List.replicate (roomH n) none) := by
  obtain ⟨r, hr⟩ : ∃ r, r = roomH n := ⟨_, rfl⟩
  have hr4 := roomH_le n
  rw [← hr] at hr4 ⊢
  have HR := Lib.hid hr
  clear hr
  have hm1 := make_bools r (by omega)
  have hm2 := make_ints64 r (by omega)
  have H4 := Lib.hid hr4
  clear hr4
  go_enter Try.func8, Try.ntmps8
  go_wp2_with fail
  go_region_with (go_at_call 22; refine (roomR_run _ _).mono ?_; rintro e w1 ⟨rfl, rfl⟩; rw [← HR.out])
  all_goals go_wp2
  all_goals go_ret
  all_goals
    refine ⟨⟨_, _, _⟩, rfl, PartsR.doneD H4.out ?_ ?_⟩
    · simp
    · repeat (first
        | exact PartsR.start
        | refine PartsR.drew ?_
        | refine PartsR.addI (by simp) ?_
        | refine PartsR.addY (by simp) ?_)
end Go.Proofs.Ytndljbkjcgfdcaa
