/- Contract of the heap's Raise, at every argument. -/
import Derived.Test.YtndljbkjcgfdcaaHeapPush
namespace Go.Proofs.Ytndljbkjcgfdcaa
open Go.RowKit Go.ChangeShapes NdPure HpPure HeapPure
section
variable {O : Nat → Prop} {B : Bl} {w0 : World} {A : List (Option Int)} {l : Int}
set_option maxRecDepth 100000 in
set_option maxHeartbeats 4000000 in
theorem raise_run (W : World) (v key : Int) (h : HpIs O B w0 A l W) (hl : l ≤ 1000000000000) :
    Calls Try.prog 17 #[.pointer (some ⟨B.b, 0, none⟩), .int .i64 v, .int .i64 key] W fun e W' => e = .returned (.bool (raiseB A v key)) ∧ Goes O B w0 (raiseA A v key) l W' := by
  have HI := Lib.hid h
  have hno : raiseB A v key = false → Goes O B w0 (raiseA A v key) l W := fun e => by unfold raiseA; rw [e]; exact h.goes
  cases hh : inA A v
  · have hr : raiseB A v key = false := by unfold raiseB; rw [hh]; rfl
    have HF := Lib.hid hr
    have HG := Lib.hid (hno hr)
    have HN := Lib.hid hh
    clear h hno hh hr
    go_enter Try.func17, Try.ntmps17
    go_wp2_with (first | (go_at_call 29; refine (has_run _ _ HI.out).mono ?_; rintro e w' ⟨rfl, rfl⟩; rw [HN.out]))
    go_ret
    exact ⟨bool_ret HF.out.symm, HG.out⟩
  obtain ⟨u, k, rfl, h0, hu⟩ := in_yes hh
  obtain ⟨M, hs, hg, hml, h00⟩ := h
  have HN := Lib.hid hh
  have hN := hg.c.lenC
  have hY := hg.c.lenY
  obtain ⟨c, g1, g2, g3, g4⟩ := hg.c.inn u k h0
  have huC : u < M.C.length := by omega
  have huY : u < M.Y.length := by omega
  have hCu : M.C[u] = c := by rw [List.getElem?_eq_getElem huC] at g1; exact Option.some.inj g1
  have hYu : M.Y[u] = k := by rw [List.getElem?_eq_getElem huY] at g4; exact Option.some.inj g4
  obtain ⟨⟨-, -, c2, c3, c4⟩, -, ⟨hb, hgC, hgK⟩, n1, n2, n3, n4⟩ := hs.cells
  obtain ⟨k1, k2⟩ := hs.getY (i := u) huY
  obtain ⟨k3, -⟩ := hs.getC (i := u) huC
  have n5 := hs.names.2.2
  rw [hYu] at k1
  rw [hCu] at k3
  have a0 : (0 : Int) ≤ (u : Int) := by omega
  have a3 : (u : Int) < (M.C.length : Int) := by omega
  by_cases hk : key < k
  · have hr : raiseB A (u : Int) key = false := by unfold raiseB; rw [key_of h0, decide_eq_false (by omega), Bool.and_false]
    have HF := Lib.hid hr
    have HG := Lib.hid (hno hr)
    have a1 : k > key := hk
    clear hs hg hno hh hr h0 g1 g2 g3 g4 hN hY hu huC hCu hYu huY hk
    go_enter Try.func17, Try.ntmps17
    go_wp2_with (first | (go_at_call 29; refine (has_run _ _ HI.out).mono ?_; rintro e w' ⟨rfl, rfl⟩; rw [HN.out]))
    go_ret
    exact ⟨bool_ret HF.out.symm, HG.out⟩
  have hr : raiseB A (u : Int) key = true := by unfold raiseB; rw [key_of h0, hh, decide_eq_true (by omega)]; rfl
  have HF := Lib.hid hr
  have HA : Hid (raiseA A (u : Int) key = A.set u (some key)) := Lib.hid (by unfold raiseA; rw [hr, if_pos rfl, Int.toNat_natCast])
  have a1 : ¬ k > key := hk
  have HM := Lib.hid (hs.layY huY key)
  by_cases hcr : c = M.root
  · have HGo : Hid (∀ w3, Hs O B w0 ⟨M.S, M.links, M.C, M.Y.set u key, M.root⟩ w3 → Goes O B w0 (A.set u (some key)) l w3) := Lib.hid fun w3 h3 =>
      goes_mk h3 (hg.raiseRoot h0 (by rw [← hcr]; exact g1) (by omega)) h00 (by show l ≤ M.links; omega) (by show M.links ≤ l + 4097; omega)
    have t : (c != M.root) = false := by rw [hcr]; exact bne_self_eq_false _
    rw [← hcr] at c4
    clear hs hg hno hh hr h0 g1 g2 g3 g4 hN hY hu huC hCu hYu huY hk hcr
    have c4' : W.cell? ⟨B.b, 4, none⟩ = some (.int .i64 c) := c4
    have t2 : (c != c) = false := bne_self_eq_false _
    clear c4 t
    go_enter Try.func17, Try.ntmps17
    go_wp2_with (first | (go_at_call 29; refine (has_run _ _ HI.out).mono ?_; rintro e w' ⟨rfl, rfl⟩; rw [HN.out]))
    go_quiet (fail)
    go_wp2
    go_ret
    exact ⟨bool_ret HF.out.symm, by rw [HA.out]; exact HGo.out _ (HM.out.drawn _)⟩
  · obtain ⟨q1, q2, q3⟩ := hg.raiseCut (key := key) hs.good.1.1 h0 g1 hcr (by omega)
    rw [← hN] at q2
    have HGo : Hid (∀ w3, Hs O B w0 (Hp.joined ⟨cutS M.S c, M.links, M.C, M.Y.set u key, M.root⟩ c) w3 → Goes O B w0 (A.set u (some key)) l w3) := Lib.hid fun w3 h3 => by
      have := meldL_le M.root c
      exact goes_mk h3 q3 h00 (by show l ≤ M.links + meldL M.root c; omega) (by show M.links + meldL M.root c ≤ l + 4097; omega)
    have HQ : Hid (M.root ≠ -1 → c ≠ -1 → TopsIn M.C.length (cutS M.S c) M.root c) := Lib.hid fun e1 e2 => ⟨q2 _ (q1 e1 e2).1, q2 _ (q1 e1 e2).2⟩
    have HL0 : Hid (0 ≤ M.links) := Lib.hid (by omega)
    have HL1 : Hid (M.links ≤ 4611686018427387904) := Lib.hid (by omega)
    have t : (c != M.root) = true := by simpa using hcr
    have HD : Hid (∀ w3 S2 Y2, Hs O B w0 ⟨S2, M.links, M.C, Y2, M.root⟩ w3 → (w3.cell? ⟨B.b, 2, none⟩ = some (.slice (some ⟨B.gC, 0, none⟩) M.C.length M.C.length)) ∧ w3.cell? ⟨B.gC, u, none⟩ = some (.int .i64 c) ∧ B.b < w3.heap.size ∧ B.gC < w3.heap.size) := Lib.hid fun w3 S2 Y2 h3 => by
      obtain ⟨⟨-, -, d2, -⟩, -, ⟨e1, e2, -⟩, -⟩ := h3.cells
      have := (h3.getC (i := u) huC).1
      rw [show M.C[u] = c from hCu] at this
      exact ⟨d2, this, e1, e2⟩
    clear hs hg hno hh hr h0 g1 g2 g3 g4 hN hY hu huC hCu hYu huY hk hcr q1 q2 q3
    go_enter Try.func17, Try.ntmps17
    go_wp2_with (first | (go_at_call 29; refine (has_run _ _ HI.out).mono ?_; rintro e w' ⟨rfl, rfl⟩; rw [HN.out]))
    go_quiet (fail)
    have H4 : Hid (Hs O B w0 ⟨M.S, M.links, M.C, M.Y.set u key, M.root⟩ ((W.setCell ⟨B.gK, u, none⟩ (.int .i64 key)).drewN nq)) := Lib.hid (HM.out.drawn nq)
    clear HM c2 c3 c4 k1 k2 k3 hgC hgK hb HI HN
    generalize (W.setCell ⟨B.gK, u, none⟩ (.int .i64 key)).drewN nq = w4 at *
    obtain ⟨d2, dc, eb, eC⟩ := HD.out _ _ _ (H4.out.drawn 1)
    have H5 := Lib.hid (H4.out.drawn 1)
    go_wp2_with fail
    refine wp_region_still_tail 10 (by kernel_rfl) (by kernel_rfl) ?_
    change wpStill _ _ (w4.drewN 1) _ _ _
    change wpStill _ _ _ (fun a' => wpList _ _ _ _ _ (w4.drewN 1)) _ _
    clear H4
    generalize w4.drewN 1 = w5 at *
    simp only [List.take_succ_cons, List.take_zero, List.drop_succ_cons, List.drop_zero]
    repeat still_step
    refine wpStill_nil ?_
    go_wp2_with fail
    refine (cut_run _ c H5.out).mono ?_
    rintro e w6 ⟨rfl, h6⟩
    have H6 : Hid (Hs O B w0 ⟨cutS M.S c, M.links, M.C, M.Y.set u key, M.root⟩ w6) := Lib.hid h6
    clear h6 H5 d2 dc eb eC
    obtain ⟨d2, dc, eb, eC⟩ := HD.out _ _ _ H6.out
    clear HD
    go_wp2_with fail
    refine (join_run _ c H6.out HL0.out HL1.out HQ.out).mono ?_
    rintro e w7 ⟨rfl, h7⟩
    have H7 := Lib.hid (HGo.out _ h7)
    clear h7 H6 d2 dc eb eC
    go_wp2
    go_ret
    exact ⟨bool_ret HF.out.symm, by rw [HA.out]; exact H7.out⟩
end
end Go.Proofs.Ytndljbkjcgfdcaa
