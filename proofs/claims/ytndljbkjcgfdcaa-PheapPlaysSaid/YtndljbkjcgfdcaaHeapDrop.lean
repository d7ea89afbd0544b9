/- Contracts of the heap's Drop and Pop, at every argument. -/
import Derived.Test.YtndljbkjcgfdcaaHeapRaise
namespace Go.Proofs.Ytndljbkjcgfdcaa
open Go.RowKit Go.ChangeShapes NdPure HpPure HeapPure
section
variable {O : Nat → Prop} {B : Bl} {w0 : World} {A : List (Option Int)} {l : Int}
set_option maxRecDepth 100000 in
set_option maxHeartbeats 4000000 in
theorem drop_run (W : World) (v : Int) (h : HpIs O B w0 A l W) (hl : l ≤ 1000000000000) :
    Calls Try.prog 20 #[.pointer (some ⟨B.b, 0, none⟩), .int .i64 v] W fun e W' => e = .returned (.bool (inA A v)) ∧ Goes O B w0 (dropA A v) l W' := by
  have HI := Lib.hid h
  cases hh : inA A v
  · have HG : Hid (Goes O B w0 (dropA A v) l W) := Lib.hid (by unfold dropA; rw [hh]; exact h.goes)
    have HN := Lib.hid hh
    clear h hh
    go_enter Try.func20, Try.ntmps20
    go_wp2_with (first | (go_at_call 29; refine (has_run _ _ HI.out).mono ?_; rintro e w' ⟨rfl, rfl⟩; rw [HN.out]))
    go_ret
    exact ⟨rfl, HG.out⟩
  have HF : Hid (true = true) := Lib.hid rfl
  obtain ⟨u, k, rfl, h0, hu⟩ := in_yes hh
  obtain ⟨M, hs, hg, hml, h00⟩ := h
  have HN := Lib.hid hh
  have hN := hg.c.lenC
  obtain ⟨c, g1, g2, g3, g4⟩ := hg.c.inn u k h0
  have huC : u < M.C.length := by omega
  have hCu : M.C[u] = c := by rw [List.getElem?_eq_getElem huC] at g1; exact Option.some.inj g1
  obtain ⟨S1, r1, L, K, hcase, hc', hL, hp⟩ := hg.drop (by rw [← hN]; exact hs.good.1) h0 g1
  have HA : Hid (dropA A (u : Int) = A.set u none) := Lib.hid (by unfold dropA; rw [hh, if_pos rfl, Int.toNat_natCast])
  have HC := Lib.hid hc'
  have HL0 : Hid (0 ≤ M.links) := Lib.hid (by omega)
  have hle := hg.le
  have HL1 : Hid (M.links + (L.length : Int) ≤ 4611686018427387904) := Lib.hid (by omega)
  have HUC := Lib.hid huC
  have HJ : Hid (∀ whole S' n K', PairP M.Y (freeS S1 c) S' r1 (-1) (-1) whole [] [] K' L.length n → 0 ≤ M.links + (n : Int) ∧ M.links + (n : Int) ≤ 4611686018427387904 ∧ (r1 ≠ -1 → whole ≠ -1 → TopsIn (M.C.set u (-1)).length S' r1 whole) ∧
      ∀ w3, Hs O B w0 (Hp.joined ⟨S', M.links + (n : Int), M.C.set u (-1), M.Y, r1⟩ whole) w3 → Goes O B w0 (A.set u none) l w3) := Lib.hid fun whole S' n K' hp' => by
    have hcnt := hp'.cnt
    have hn : n ≤ L.length := by simp at hcnt; omega
    obtain ⟨q1, q2, q3⟩ := good_paired (l := M.links + (n : Int)) hc' (by simpa using hle) hp'
    refine ⟨by omega, by omega, fun e1 e2 => ⟨q2 _ (q1 e1 e2).1, q2 _ (q1 e1 e2).2⟩, fun w3 h3 => ?_⟩
    have := meldL_le r1 whole
    exact goes_mk h3 q3 h00 (by show l ≤ M.links + (n : Int) + meldL r1 whole; omega) (by show M.links + (n : Int) + meldL r1 whole ≤ l + 4097; omega)
  have HD : Hid (∀ w3 S2 r2, Hs O B w0 ⟨S2, M.links, M.C, M.Y, r2⟩ w3 → (w3.cell? ⟨B.b, 2, none⟩ = some (.slice (some ⟨B.gC, 0, none⟩) M.C.length M.C.length)) ∧ (w3.cell? ⟨B.gC, u, none⟩ = some (.int .i64 c) ∧ w3.frozen? ⟨B.gC, u, none⟩ = false) ∧ B.b < w3.heap.size ∧ B.gC < w3.heap.size) := Lib.hid fun w3 S2 r2 h3 => by
    obtain ⟨⟨-, -, d2, -⟩, -, ⟨e1, e2, -⟩, -⟩ := h3.cells
    have := h3.getC (i := u) huC
    rw [show M.C[u] = c from hCu] at this
    exact ⟨d2, this, e1, e2⟩
  obtain ⟨⟨-, -, c2, -, c4⟩, ⟨-, f4⟩, ⟨hb, hgC, -⟩, n1, n2, n3, n4⟩ := hs.cells
  obtain ⟨k3, k4⟩ := hs.getC (i := u) huC
  rw [hCu] at k3
  have a0 : (0 : Int) ≤ (u : Int) := by omega
  have a3 : (u : Int) < (M.C.length : Int) := by omega
  generalize hlst : (atV S1 c).below = lst at *
  have HLST := Lib.hid hlst
  have HP := Lib.hid hp
  rcases hcase with ⟨e1, e2, e3⟩ | ⟨e1, e2, e3⟩
  · subst e2 e3
    have t : (c == c) = true := beq_self_eq_true _
    rw [← e1] at c4
    have HS := Lib.hid (hs.layRoot (-1))
    clear hs hg hh h0 g1 g2 g3 g4 hN hu huC hCu e1 hlst hp hc' hL hle
    go_enter Try.func20, Try.ntmps20
    go_upto_region 7 with (first | (go_at_call 29; refine (has_run _ _ HI.out).mono ?_; rintro e w' ⟨rfl, rfl⟩; rw [HN.out]))
    clear k3 k4 c2 c4 f4 hgC hb HI HN t
    have H4 : Hid (Hs O B w0 ⟨M.S, M.links, M.C, M.Y, -1⟩ (W.setCell ⟨B.b, 4, none⟩ (.int .i64 (-1)))) := HS
    clear HS
    generalize W.setCell ⟨B.b, 4, none⟩ (.int .i64 (-1)) = w4 at *
    obtain ⟨d2, ⟨dc, df⟩, eb, eC⟩ := HD.out _ _ _ H4.out
    go_upto_region 8 with fail
    have H5 : Hid (Hs O B w0 ⟨M.S, M.links, M.C.set u (-1), M.Y, (-1)⟩ (w4.setCell ⟨B.gC, u, none⟩ (.int .i64 (-1)))) := Lib.hid (H4.out.layC HUC.out (-1))
    clear d2 dc df eC H4 eb HD
    generalize w4.setCell ⟨B.gC, u, none⟩ (.int .i64 (-1)) = w5 at *
    have H6 : Hid (Hs O B w0 ⟨M.S, M.links, M.C.set u (-1), M.Y, (-1)⟩ w5.drew) := Lib.hid (H5.out.drawn 1)
    obtain ⟨-, -, ⟨eb, -⟩, -⟩ := H5.out.cells
    clear H5
    go_region_with (first
      | (go_at_call 35; refine (fell_run _ c H6.out).mono ?_; rintro e w6 ⟨rfl, h6⟩; rw [HLST.out]; have H7 := Lib.hid h6; clear h6)
      | (go_at_call 34; refine (pair_run _ (-1) lst L K H7.out HP.out HC.out.inj HC.out.range HL0.out HL1.out).mono ?_; rintro e w7 ⟨whole, S', n, K', rfl, h7, hp7⟩; have H8 := Lib.hid h7; have HP8 := Lib.hid hp7; clear h7 hp7)
      | (go_at_call 31; refine (join_run _ whole H8.out (HJ.out _ _ _ _ HP8.out).1 (HJ.out _ _ _ _ HP8.out).2.1 (HJ.out _ _ _ _ HP8.out).2.2.1).mono ?_; rintro e w8 ⟨rfl, h8⟩; have H9 := Lib.hid ((HJ.out _ _ _ _ HP8.out).2.2.2 _ h8); clear h8))
    all_goals go_wp2
    all_goals go_ret
    all_goals exact ⟨rfl, by rw [HA.out]; exact H9.out⟩
  · subst e2 e3
    have t : (c == M.root) = false := by simpa using e1
    have HS := Lib.hid hs
    clear hs hg hh h0 g1 g2 g3 g4 hN hu huC hCu e1 hlst hp hc' hL hle
    go_enter Try.func20, Try.ntmps20
    go_upto_region 6 with (first | (go_at_call 29; refine (has_run _ _ HI.out).mono ?_; rintro e w' ⟨rfl, rfl⟩; rw [HN.out]))
    go_wp2_with fail
    refine (cut_run _ c HS.out).mono ?_
    rintro e w4 ⟨rfl, h4⟩
    have H4 : Hid (Hs O B w0 ⟨cutS M.S c, M.links, M.C, M.Y, M.root⟩ w4) := Lib.hid h4
    clear h4 HS k3 k4 c2 c4 f4 hgC hb HI HN t
    obtain ⟨d2, ⟨dc, df⟩, eb, eC⟩ := HD.out _ _ _ H4.out
    go_upto_region 8 with fail
    have H5 : Hid (Hs O B w0 ⟨cutS M.S c, M.links, M.C.set u (-1), M.Y, M.root⟩ (w4.setCell ⟨B.gC, u, none⟩ (.int .i64 (-1)))) := Lib.hid (H4.out.layC HUC.out (-1))
    clear d2 dc df eC H4 eb HD
    generalize w4.setCell ⟨B.gC, u, none⟩ (.int .i64 (-1)) = w5 at *
    have H6 : Hid (Hs O B w0 ⟨cutS M.S c, M.links, M.C.set u (-1), M.Y, M.root⟩ w5.drew) := Lib.hid (H5.out.drawn 1)
    obtain ⟨-, -, ⟨eb, -⟩, -⟩ := H5.out.cells
    clear H5
    go_region_with (first
      | (go_at_call 35; refine (fell_run _ c H6.out).mono ?_; rintro e w6 ⟨rfl, h6⟩; rw [HLST.out]; have H7 := Lib.hid h6; clear h6)
      | (go_at_call 34; refine (pair_run _ M.root lst L K H7.out HP.out HC.out.inj HC.out.range HL0.out HL1.out).mono ?_; rintro e w7 ⟨whole, S', n, K', rfl, h7, hp7⟩; have H8 := Lib.hid h7; have HP8 := Lib.hid hp7; clear h7 hp7)
      | (go_at_call 31; refine (join_run _ whole H8.out (HJ.out _ _ _ _ HP8.out).1 (HJ.out _ _ _ _ HP8.out).2.1 (HJ.out _ _ _ _ HP8.out).2.2.1).mono ?_; rintro e w8 ⟨rfl, h8⟩; have H9 := Lib.hid ((HJ.out _ _ _ _ HP8.out).2.2.2 _ h8); clear h8))
    all_goals go_wp2
    all_goals go_ret
    all_goals exact ⟨rfl, by rw [HA.out]; exact H9.out⟩
end
end Go.Proofs.Ytndljbkjcgfdcaa
