/- Contracts of the heap's Room, has, Len, Links, Key and Top, at every argument. -/
import Derived.Test.YtndljbkjcgfdcaaHpJoin
import Derived.Test.YtndljbkjcgfdcaaHpGood
namespace Go.Proofs.Ytndljbkjcgfdcaa
open Go.RowKit Go.ChangeShapes NdPure HpPure HeapPure
/-- A heap that lies in memory, and tells A. -/
def HpIs (O : Nat → Prop) (B : Bl) (w0 : World) (A : List (Option Int)) (l : Int) (W : World) : Prop := ∃ M, Hs O B w0 M W ∧ GoodH M A ∧ M.links = l ∧ 0 ≤ l
section
variable {O : Nat → Prop} {B : Bl} {w0 : World} {A : List (Option Int)} {l : Int}
theorem HpIs.keep {W W' : World} (h : HpIs O B w0 A l W) (hb : Below W.heap.size W W') : HpIs O B w0 A l W' := by
  obtain ⟨M, h1, h2⟩ := h
  exact ⟨M, h1.keep hb, h2⟩
theorem room_run (W : World) (h : HpIs O B w0 A l W) :
    Calls Try.prog 9 #[.pointer (some ⟨B.b, 0, none⟩)] W fun e W' => e = .returned (.int .i64 (A.length : Int)) ∧ W = W' := by
  obtain ⟨M, hs, hg, -⟩ := h
  obtain ⟨⟨-, -, c2, -⟩, -, ⟨hb, -⟩, -⟩ := hs.cells
  rw [hg.c.lenC] at c2
  clear hs hg
  go_enter Try.func9, Try.ntmps9
  go_wp2
  go_ret
  exact ⟨rfl, rfl⟩
theorem len_run (W : World) (h : HpIs O B w0 A l W) :
    Calls Try.prog 11 #[.pointer (some ⟨B.b, 0, none⟩)] W fun e W' => e = .returned (.int .i64 (lenA A : Int)) ∧ W = W' := by
  obtain ⟨M, hs, hg, -⟩ := h
  obtain ⟨⟨c0, -⟩, -, ⟨hb, -⟩, -⟩ := hs.cells
  have HS := Lib.hid hs
  have HL := Lib.hid hg.c.cnt
  clear hs hg
  go_enter Try.func11, Try.ntmps11
  go_wp2_with fail
  refine (lenA_run _ HS.out).mono ?_
  rintro e w' ⟨rfl, rfl⟩
  rw [HL.out]
  go_wp2
  go_ret
  exact ⟨rfl, rfl⟩
theorem links_run (W : World) (h : HpIs O B w0 A l W) :
    Calls Try.prog 13 #[.pointer (some ⟨B.b, 0, none⟩)] W fun e W' => e = .returned (.int .i64 l) ∧ W = W' := by
  obtain ⟨M, hs, hg, rfl, -⟩ := h
  obtain ⟨⟨-, c1, -⟩, -, ⟨hb, -⟩, -⟩ := hs.cells
  clear hs hg
  go_enter Try.func13, Try.ntmps13
  go_wp2
  go_ret
  exact ⟨rfl, rfl⟩
/-- What the cells tell of a vertex. -/
theorem HpPure.GoodC.at {S : St} {C Y : List Int} {u : Nat} (h : GoodC S C Y A) (hu : u < A.length) : ∃ c, C[u]? = some c ∧ (inA A (u : Int) = (c != -1)) := by
  rw [← h.lenC] at hu
  refine ⟨C[u], List.getElem?_eq_getElem hu, ?_⟩
  rw [h.lenC] at hu
  cases e : A[u] with
  | none =>
    have e1 : A[u]? = some none := by rw [List.getElem?_eq_getElem hu, e]
    have e2 := h.out u e1
    rw [List.getElem?_eq_getElem (by rw [h.lenC]; exact hu)] at e2
    rw [in_none e1, Option.some.inj e2]
    rfl
  | some k =>
    have e1 : A[u]? = some (some k) := by rw [List.getElem?_eq_getElem hu, e]
    obtain ⟨c, e2, g, -⟩ := h.inn u k e1
    rw [List.getElem?_eq_getElem (by rw [h.lenC]; exact hu)] at e2
    rw [in_of e1, Option.some.inj e2]
    have : c ≠ -1 := fun e => not_G_neg (by rw [← e]; exact g)
    simpa using this
set_option maxHeartbeats 1000000 in
theorem has_run (W : World) (v : Int) (h : HpIs O B w0 A l W) :
    Calls Try.prog 29 #[.pointer (some ⟨B.b, 0, none⟩), .int .i64 v] W fun e W' => e = .returned (.bool (inA A v)) ∧ W = W' := by
  have HI := Lib.hid h
  obtain ⟨M, hs, hg, -⟩ := h
  obtain ⟨⟨-, -, c2, -⟩, -, ⟨hb, hC, -⟩, -⟩ := hs.cells
  rw [hg.c.lenC] at c2
  by_cases h0 : v < 0
  · have HF := Lib.hid (in_low (A := A) h0)
    have a1 : ¬ v ≥ 0 := by omega
    clear hs hg h0
    go_enter Try.func29, Try.ntmps29
    go_wp2_with (first | (go_at_call 9; refine (room_run _ HI.out).mono ?_; rintro e w' ⟨rfl, rfl⟩))
    go_ret
    exact ⟨bool_ret HF.out.symm, rfl⟩
  obtain ⟨u, rfl⟩ := Int.eq_ofNat_of_zero_le (by omega : 0 ≤ v)
  have a1 : (u : Int) ≥ 0 := by omega
  by_cases h1 : u < A.length
  · obtain ⟨c, e1, e2⟩ := hg.c.at h1
    have e3 := (hs.getC (i := u) (by rw [hg.c.lenC]; exact h1)).1
    obtain ⟨hl, e4⟩ := List.getElem?_eq_some_iff.1 e1
    rw [e4] at e3
    have HF := Lib.hid e2
    have a2 : (u : Int) < (A.length : Int) := by omega
    clear hs hg h0 e1 e2 hl e4 h1
    cases hq : (c != -1)
    all_goals
      rw [hq] at HF
      go_enter Try.func29, Try.ntmps29
      go_wp2_with (first | (go_at_call 9; refine (room_run _ HI.out).mono ?_; rintro e w' ⟨rfl, rfl⟩))
      go_ret
      exact ⟨bool_ret HF.out.symm, rfl⟩
  · have HF := Lib.hid (in_past (A := A) (v := (u : Int)) (by omega))
    have a2 : ¬ (u : Int) < (A.length : Int) := by omega
    clear hs hg h0 h1
    go_enter Try.func29, Try.ntmps29
    go_wp2_with (first | (go_at_call 9; refine (room_run _ HI.out).mono ?_; rintro e w' ⟨rfl, rfl⟩))
    go_ret
    exact ⟨bool_ret HF.out.symm, rfl⟩
set_option maxHeartbeats 1000000 in
theorem key_run (W : World) (v : Int) (h : HpIs O B w0 A l W) :
    Calls Try.prog 14 #[.pointer (some ⟨B.b, 0, none⟩), .int .i64 v] W fun e W' => e = .returned (.tuple #[.int .i64 (keyA A v), .bool (inA A v)]) ∧ W = W' := by
  have HI := Lib.hid h
  obtain ⟨M, hs, hg, -⟩ := h
  obtain ⟨⟨-, -, -, c3, -⟩, -, ⟨hb, -, hK⟩, -⟩ := hs.cells
  rw [hg.c.lenC] at c3
  cases hh : inA A v
  · have HF := Lib.hid hh
    have HV := Lib.hid (key_no hh)
    clear hs hg hh
    go_enter Try.func14, Try.ntmps14
    go_wp2_with (first | (go_at_call 29; refine (has_run _ v HI.out).mono ?_; rintro e w' ⟨rfl, rfl⟩; rw [HF.out]))
    go_ret2
    exact ⟨ret_ib HV.out.symm rfl, rfl⟩
  · have HF := Lib.hid hh
    obtain ⟨u, k, rfl, e1, hu⟩ := in_yes hh
    obtain ⟨c, -, -, -, e2⟩ := hg.c.inn u k e1
    obtain ⟨hl, e3⟩ := List.getElem?_eq_some_iff.1 e2
    have e4 := (hs.getY (i := u) hl).1
    rw [e3] at e4
    have HV := Lib.hid (key_of e1)
    have a1 : (0 : Int) ≤ (u : Int) := by omega
    have a2 : (u : Int) < (A.length : Int) := by omega
    clear hs hg hh e1 e2 e3 hl hu
    generalize A.length = n at *
    go_enter Try.func14, Try.ntmps14
    go_wp2_with (first | (go_at_call 29; refine (has_run _ _ HI.out).mono ?_; rintro e w' ⟨rfl, rfl⟩; rw [HF.out]))
    go_ret2
    exact ⟨ret_ib HV.out.symm rfl, rfl⟩
theorem ret_iib {a b c d : Int} {p q : Bool} (h1 : a = b) (h2 : c = d) (h3 : p = q) : Ending.returned (.tuple #[.int .i64 a, .int .i64 c, .bool p]) = .returned (.tuple #[.int .i64 b, .int .i64 d, .bool q]) := by rw [h1, h2, h3]
set_option maxHeartbeats 2000000 in
theorem top_run (W : World) (h : HpIs O B w0 A l W) :
    Calls Try.prog 19 #[.pointer (some ⟨B.b, 0, none⟩)] W fun e W' => e = .returned (.tuple #[.int .i64 (topV A), .int .i64 (topK A), .bool (topB A)]) ∧ Below W.heap.size W W' := by
  have HI := Lib.hid h
  obtain ⟨M, hs, hg, -⟩ := h
  cases hf : firstA A with
  | none =>
    have hz := (len_zero A).2 hf
    have t : ((lenA A : Int) == 0) = true := by rw [hz]; rfl
    have H1 : Hid (topV A = 0) := Lib.hid (by unfold topV; rw [hf])
    have H2 : Hid (topK A = 0) := Lib.hid (by unfold topK; rw [hf])
    have H3 : Hid (topB A = false) := Lib.hid (by unfold topB; rw [hf]; rfl)
    clear hs hg hf hz
    go_enter Try.func19, Try.ntmps19
    go_wp2_with (first | (go_at_call 11; refine (len_run _ HI.out).mono ?_; rintro e w' ⟨rfl, rfl⟩))
    exact bodyPost_ret (v := .tuple #[.int .i64 0, .int .i64 0, .bool false]) (by simp [results, Try.results19, go_sem]) rfl ⟨ret_iib H1.out.symm H2.out.symm H3.out.symm, Below.refl _ _⟩
  | some r =>
    obtain ⟨m, y⟩ := r
    obtain ⟨g1, g2, g3⟩ := hg.first hf
    have hz : ¬ lenA A = 0 := fun e => by rw [(len_zero A).1 e] at hf; cases hf
    have t : ((lenA A : Int) == 0) = false := by
      have : ¬ (lenA A : Int) = 0 := by omega
      simpa using this
    have H1 : Hid (topV A = m) := Lib.hid (by unfold topV; rw [hf])
    have H2 : Hid (topK A = y) := Lib.hid (by unfold topK; rw [hf])
    have H3 : Hid (topB A = true) := Lib.hid (by unfold topB; rw [hf]; rfl)
    obtain ⟨c, -, -, -, e2⟩ := hg.c.inn m y g3
    obtain ⟨hl, e3⟩ := List.getElem?_eq_some_iff.1 e2
    have HS := Lib.hid (hs.drawn 1)
    have HC : Hid (∀ W', Below (W.drewN 1).heap.size (W.drewN 1) W' → (W'.cell? ⟨B.b, 3, none⟩ = some (.slice (some ⟨B.gK, 0, none⟩) A.length A.length)) ∧ W'.cell? ⟨B.gK, m, none⟩ = some (.int .i64 y) ∧ B.b < W'.heap.size ∧ B.gK < W'.heap.size) := Lib.hid fun W' hb => by
      have hk := (hs.drawn 1).keep hb
      obtain ⟨⟨-, -, -, c3, -⟩, -, ⟨b1, -, b3⟩, -⟩ := hk.cells
      rw [hg.c.lenC] at c3
      have := (hk.getY (i := m) hl).1
      rw [e3] at this
      exact ⟨c3, this, b1, b3⟩
    have a1 : (0 : Int) ≤ (m : Int) := by omega
    have a2 : (m : Int) < (A.length : Int) := by have := hg.c.lenY; omega
    obtain ⟨⟨-, -, -, -, c4⟩, -, ⟨hb, -⟩, -⟩ := (hs.drawn 1).cells
    have HB : Hid (Below W.heap.size W (W.drewN 1)) := Lib.hid (below_drewN (Below.refl _ _) 1)
    have hc4 : (W.drewN 1).cell? ⟨B.b, 4, none⟩ = some (.int .i64 M.root) := c4
    clear hs hg hf hz g1 g3 e2 e3 hl c4
    generalize hX : atV M.S M.root = X at *
    have HX := Lib.hid hX
    clear hX
    obtain ⟨x0, x1, x2, x3⟩ := X
    replace g2 : x0 = (m : Int) := g2
    subst g2
    go_enter Try.func19, Try.ntmps19
    go_wp2_with (first | (go_at_call 11; refine (len_run _ HI.out).mono ?_; rintro e w' ⟨rfl, rfl⟩))
    refine wp_region_still_tail 7 (by kernel_rfl) (by kernel_rfl) ?_
    change wpStill _ _ (W.drewN 1) _ _ _
    change wpStill _ _ _ (fun a' => wpList _ _ _ _ _ (W.drewN 1)) _ _
    generalize W.drewN 1 = W1 at *
    simp only [List.take_succ_cons, List.take_zero, List.drop_succ_cons, List.drop_zero]
    repeat still_step
    refine wpStill_nil ?_
    go_wp2_with fail
    refine (atT_run _ M.root HS.out).mono ?_
    rintro e w2 ⟨rfl, hb2⟩
    rw [HX.out]
    unfold encNd
    simp only
    obtain ⟨k3, k4, k5, k6⟩ := HC.out _ hb2
    have HB2 : Hid (Below W.heap.size W w2) := Lib.hid (HB.out.trans (hb2.mono HB.out.size))
    have hfd := field_nd0
    clear hb2 HC HS hc4 hb
    generalize A.length = n at *
    go_wp2
    go_quiet (fail)
    go_wp2
    exact bodyPost_ret (v := .tuple #[.int .i64 m, .int .i64 y, .bool true]) (by simp [results, Try.results19, go_sem]) rfl ⟨ret_iib H1.out.symm H2.out.symm H3.out.symm, below_drewN HB2.out _⟩
end
end Go.Proofs.Ytndljbkjcgfdcaa
