/- Contract of the trees' meld, at every argument that it may have. -/
import Derived.Test.YtndljbkjcgfdcaaHpTake
namespace Go.Proofs.Ytndljbkjcgfdcaa
open Go.RowKit Go.ChangeShapes NdPure HpPure
section
variable {O : Nat → Prop} {B : Bl} {w0 : World} {M : Hp}
/-- The vertices of two trees' tops are vertices. -/
def TopsIn (N : Nat) (S : St) (a c : Int) : Prop := (0 ≤ (atV S a).v ∧ (atV S a).v < (N : Int)) ∧ (0 ≤ (atV S c).v ∧ (atV S c).v < (N : Int))
set_option maxRecDepth 100000 in
set_option maxHeartbeats 2000000 in
theorem meld_run (W : World) (a c : Int) (h : Hs O B w0 M W) (hl0 : 0 ≤ M.links) (hl1 : M.links ≤ 4611686018427387904) (hr : a ≠ -1 → c ≠ -1 → TopsIn M.C.length M.S a c) :
    Calls Try.prog 38 #[.pointer (some ⟨B.b, 0, none⟩), .int .i64 a, .int .i64 c, aheadV B] W fun e W' => e = .returned (.int .i64 (meldN M.Y M.S a c)) ∧ Hs O B w0 (M.linked (meldS M.Y M.S a c) (meldL a c)) W' := by
  by_cases ha : a = -1
  · subst ha
    have HN : Hid (meldN M.Y M.S (-1) c = c) := Lib.hid (if_pos rfl)
    have HS : Hid (Hs O B w0 (M.linked (meldS M.Y M.S (-1) c) (meldL (-1) c)) W) := Lib.hid (by rw [show meldS M.Y M.S (-1) c = M.S from if_pos rfl, show meldL (-1) c = 0 from if_pos rfl, linked_zero, withS_self]; exact h)
    clear h hr hl0 hl1
    go_enter Try.func38, Try.ntmps38
    go_wp2
    go_ret
    exact ⟨ret_i (by rw [HN.out]), HS.out⟩
  have ea : (a == -1) = false := by simpa using ha
  by_cases hc : c = -1
  · subst hc
    have HN : Hid (meldN M.Y M.S a (-1) = a) := Lib.hid (by unfold meldN; rw [if_neg ha, if_pos rfl])
    have HS : Hid (Hs O B w0 (M.linked (meldS M.Y M.S a (-1)) (meldL a (-1))) W) := Lib.hid (by
      rw [show meldS M.Y M.S a (-1) = M.S by unfold meldS; rw [if_neg ha, if_pos rfl], show meldL a (-1) = 0 by unfold meldL; rw [if_neg ha, if_pos rfl], linked_zero, withS_self]; exact h)
    clear h hr hl0 hl1 ha
    go_enter Try.func38, Try.ntmps38
    go_wp2
    go_ret
    exact ⟨ret_i (by rw [HN.out]), HS.out⟩
  have ec : (c == -1) = false := by simpa using hc
  replace hr := hr ha hc
  have H := Lib.hid h
  have HL : Hid (meldL a c = 1) := Lib.hid (by unfold meldL; rw [if_neg ha, if_neg hc])
  clear h
  unfold TopsIn at hr
  generalize hX : atV M.S a = X at *
  have HX := Lib.hid hX
  clear hX
  obtain ⟨x0, x1, x2, x3⟩ := X
  generalize hZ : atV M.S c = Z at *
  have HZ := Lib.hid hZ
  clear hZ
  obtain ⟨z0, z1, z2, z3⟩ := Z
  simp only at hr
  have hfd := field_nd0
  unfold aheadV
  cases hd : aheadB M.Y x0 z0
  · have HN : Hid (meldN M.Y M.S a c = c) := Lib.hid (by unfold meldN; rw [if_neg ha, if_neg hc, HX.out, HZ.out]; exact (by rw [hd]; first | exact if_pos rfl | exact if_neg (by decide)))
    have HS : Hid (meldS M.Y M.S a c = hangS M.S a c) := Lib.hid (by unfold meldS; rw [if_neg ha, if_neg hc, HX.out, HZ.out]; exact (by rw [hd]; first | exact if_pos rfl | exact if_neg (by decide)))
    have HD := Lib.hid hd
    clear ha hc hd
    go_enter Try.func38, Try.ntmps38
    go_wp2_with fail
    refine (atT_run _ a H.out).mono ?_
    rintro e w2 ⟨rfl, hb2⟩
    rw [HX.out]
    have H2 := Lib.hid (H.out.keep hb2)
    clear hb2 H
    unfold encNd
    simp only
    go_wp2_with fail
    refine (atT_run _ c H2.out).mono ?_
    rintro e w3 ⟨rfl, hb3⟩
    rw [HZ.out]
    have H3 := Lib.hid (H2.out.keep hb3)
    clear hb3 H2
    unfold encNd
    simp only
    go_wp2_with fail
    refine (ahead_run _ x0 z0 H3.out hr.1.1 hr.1.2 hr.2.1 hr.2.2).mono ?_
    rintro e w4 ⟨rfl, m, rfl⟩
    rw [HD.out]
    have H4 := Lib.hid (H3.out.drawn m)
    clear H3
    generalize w3.drewN m = w5 at *
    go_wp2_with fail
    refine (hang_run _ a c H4.out hl0 hl1).mono ?_
    rintro e w6 ⟨rfl, h6⟩
    have H6 := Lib.hid h6
    clear h6 H4
    go_wp2
    go_ret
    exact ⟨ret_i (by rw [HN.out]), by rw [HS.out, HL.out]; exact H6.out⟩
  · have HN : Hid (meldN M.Y M.S a c = a) := Lib.hid (by unfold meldN; rw [if_neg ha, if_neg hc, HX.out, HZ.out]; exact (by rw [hd]; first | exact if_pos rfl | exact if_neg (by decide)))
    have HS : Hid (meldS M.Y M.S a c = hangS M.S c a) := Lib.hid (by unfold meldS; rw [if_neg ha, if_neg hc, HX.out, HZ.out]; exact (by rw [hd]; first | exact if_pos rfl | exact if_neg (by decide)))
    have HD := Lib.hid hd
    clear ha hc hd
    go_enter Try.func38, Try.ntmps38
    go_wp2_with fail
    refine (atT_run _ a H.out).mono ?_
    rintro e w2 ⟨rfl, hb2⟩
    rw [HX.out]
    have H2 := Lib.hid (H.out.keep hb2)
    clear hb2 H
    unfold encNd
    simp only
    go_wp2_with fail
    refine (atT_run _ c H2.out).mono ?_
    rintro e w3 ⟨rfl, hb3⟩
    rw [HZ.out]
    have H3 := Lib.hid (H2.out.keep hb3)
    clear hb3 H2
    unfold encNd
    simp only
    go_wp2_with fail
    refine (ahead_run _ x0 z0 H3.out hr.1.1 hr.1.2 hr.2.1 hr.2.2).mono ?_
    rintro e w4 ⟨rfl, m, rfl⟩
    rw [HD.out]
    have H4 := Lib.hid (H3.out.drawn m)
    clear H3
    generalize w3.drewN m = w5 at *
    go_wp2_with fail
    refine (hang_run _ c a H4.out hl0 hl1).mono ?_
    rintro e w6 ⟨rfl, h6⟩
    have H6 := Lib.hid h6
    clear h6 H4
    go_wp2
    go_ret
    exact ⟨ret_i (by rw [HN.out]), by rw [HS.out, HL.out]; exact H6.out⟩
end
end Go.Proofs.Ytndljbkjcgfdcaa
