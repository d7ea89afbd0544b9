/- RankTurns is proved: of any two lists the program tells the inverse of the first one, and the second one in its order, as the document does, or that it is no order or of another length; of lists of more than 200 the law asks only that the program is awake. No condition. -/
import Derived.Test.YtemcbhbobfjnkaaRankAwake
import Derived.Test.YtemcbhbobfjnkaaOpenI
import Derived.Test.YtemcbhbobfjnkaaChecked
import Derived.Test.YtemcbhbobfjnkaaRows
import Derived.Below
namespace Go.Proofs.Ytemcbhbobfjnkaa.rankTurns
open Go.RowKit Go.ChangeShapes Go.WideShapes Go.ChangeAt RankPure
set_option maxHeartbeats 1000000 in
theorem walk_list (a : Option Addr) (cap : Nat) (p : List Int) (a2 : Option Addr) (cap2 : Nat) (l : List Int) (W : World) (hP : ReadsL encZ W.heap.size W a p) (_ : p.length ≤ maxLen) (hL : ReadsL encZ W.heap.size W a2 l) (_ : l.length ≤ maxLen) :
    Calls Try.prog 4 #[.slice a p.length cap, .slice a2 l.length cap2] W fun e W' => e = .returned (.bool true) ∧ Below W.heap.size W W' := by
  have HA := Lib.hid (awake_any W)
  by_cases hlen : 200 < p.length
  · have i0 : (200 : Int) < (p.length : Int) := by omega
    clear hP hL
    go_enter Try.func4, Try.ntmps4
    go_wp2_with (go_at_call 6; refine HA.out.mono ?_; rintro e w1 ⟨rfl, hb1⟩)
    go_ret
    exact ⟨rfl, hb1⟩
  · have i0 : ¬ (200 : Int) < (p.length : Int) := by omega
    by_cases hlen2 : 200 < l.length
    · have i1 : (200 : Int) < (l.length : Int) := by omega
      clear hP hL
      go_enter Try.func4, Try.ntmps4
      go_wp2_with (go_at_call 6; refine HA.out.mono ?_; rintro e w1 ⟨rfl, hb1⟩)
      go_ret
      exact ⟨rfl, hb1⟩
    · have i1 : ¬ (200 : Int) < (l.length : Int) := by omega
      clear HA
      have hp1 : p.length ≤ 1000 := by omega
      have hl1 : l.length ≤ 1000 := by omega
      have HI := Lib.hid (inverse_any a cap p hp1 W hP)
      have HP := Lib.hid hP
      have HL := Lib.hid hL
      clear hP hL
      by_cases ho : OrdP p
      · have HO := Lib.hid ho
        have HB : Hid (ordB p = true) := Lib.hid (decide_eq_true ho)
        have hil : (invL p).length = p.length := invL_len p
        clear ho
        go_enter Try.func4, Try.ntmps4
        go_wp2_with fail
        refine HI.out.mono ?_
        rintro e w1 ⟨h1 | h1, b1⟩
        · obtain ⟨-, g, rfl, -, r1⟩ := h1
          have HB1 := Lib.hid b1
          have HP1 := Lib.hid (HP.out.over b1 (Nat.le_refl _))
          have HL1 := Lib.hid (HL.out.over b1 (Nat.le_refl _))
          have HQ1 := Lib.hid r1
          clear b1 r1
          have HAp := Lib.hid (apply_any a a2 cap cap2 p l hp1 w1 HP1.out HL1.out)
          go_wp2_with fail
          refine HAp.out.mono ?_
          rintro e w2 ⟨h2, b2⟩
          have HB2 := Lib.hid (HB1.out.trans (b2.mono HB1.out.size))
          have HP2 := Lib.hid (HP1.out.over b2 (Nat.le_refl _))
          have HL2 := Lib.hid (HL1.out.over b2 (Nat.le_refl _))
          have HQ2 := Lib.hid (HQ1.out.over b2 (Nat.le_refl _))
          clear b2
          have HOr := Lib.hid (refOrder_any a cap p hp1 w2 HP2.out)
          rw [HB.out] at HOr
          rcases h2 with ⟨hc, g2, rfl, -, r2⟩ | ⟨hno, rfl⟩
          · have hll := hc.2
            have HM2 := Lib.hid r2
            have hml : (applyL p l).length = p.length := applyL_len p l
            have t1 : ((l.length : Int) == (p.length : Int)) = true := by simp [hll]
            have HLL := Lib.hid hll
            clear hc r2 hll
            go_wp2_with fail
            refine HOr.out.mono ?_
            rintro e w3 ⟨rfl, m3, rfl⟩
            have hd : Below w2.heap.size w2 (w2.drewN m3) := below_drewN (Below.refl _ _) m3
            have HB3 := Lib.hid (HB2.out.trans (hd.mono HB2.out.size))
            have HP3 := Lib.hid (HP2.out.over hd (Nat.le_refl _))
            have HL3 := Lib.hid (HL2.out.over hd (Nat.le_refl _))
            have HQ3 := Lib.hid (HQ2.out.over hd (Nat.le_refl _))
            have HM3 := Lib.hid (HM2.out.over hd (Nat.le_refl _))
            clear hd
            generalize w2.drewN m3 = w3 at *
            have HRI := Lib.hid (refInverse_any a cap p HO.out hp1 w3 HP3.out)
            go_wp2_with fail
            refine HRI.out.mono ?_
            rintro e w4 ⟨g4, rfl, -, b4, r4⟩
            have HB4 := Lib.hid (HB3.out.trans (b4.mono HB3.out.size))
            have HP4 := Lib.hid (HP3.out.over b4 (Nat.le_refl _))
            have HL4 := Lib.hid (HL3.out.over b4 (Nat.le_refl _))
            have HM4 := Lib.hid (HM3.out.over b4 (Nat.le_refl _))
            have HS := Lib.hid (ints_any (some ⟨g, 0, none⟩) (some ⟨g4, 0, none⟩) p.length p.length (invL p) (invL p) w4 (HQ3.out.over b4 (Nat.le_refl _)) r4 (by omega))
            rw [hil, decide_eq_true (rfl : invL p = invL p)] at HS
            clear b4 r4
            go_wp2_with fail
            refine HS.out.mono ?_
            rintro e w5 ⟨rfl, m5, rfl⟩
            have hd : Below w4.heap.size w4 (w4.drewN m5) := below_drewN (Below.refl _ _) m5
            have HB5 := Lib.hid (HB4.out.trans (hd.mono HB4.out.size))
            have HP5 := Lib.hid (HP4.out.over hd (Nat.le_refl _))
            have HL5 := Lib.hid (HL4.out.over hd (Nat.le_refl _))
            have HM5 := Lib.hid (HM4.out.over hd (Nat.le_refl _))
            clear hd
            generalize w4.drewN m5 = w5 at *
            have HRA := Lib.hid (refApply_any a a2 cap cap2 p l HO.out HLL.out hp1 w5 HP5.out HL5.out)
            go_wp2_with fail
            refine HRA.out.mono ?_
            rintro e w6 ⟨⟨q6, c6, rfl, r6⟩, b6⟩
            have HB6 := Lib.hid (HB5.out.trans (b6.mono HB5.out.size))
            have HS6 := Lib.hid (ints_any (some ⟨g2, 0, none⟩) q6 p.length c6 (applyL p l) (applyL p l) w6 (HM5.out.over b6 (Nat.le_refl _)) r6 (by omega))
            rw [hml, decide_eq_true (rfl : applyL p l = applyL p l)] at HS6
            clear b6 r6
            go_wp2_with fail
            refine HS6.out.mono ?_
            rintro e w7 ⟨rfl, m7, rfl⟩
            have HB7 := Lib.hid (below_drewN HB6.out m7)
            generalize w6.drewN m7 = w7 at *
            have HW := Lib.hid (awake_any w7)
            go_wp2_with fail
            refine HW.out.mono ?_
            rintro e w8 ⟨rfl, b8⟩
            have HB8 := Lib.hid (HB7.out.trans (b8.mono HB7.out.size))
            clear b8
            go_wp2
            go_ret
            exact ⟨rfl, HB8.out⟩
          · have t1 : ((l.length : Int) == (p.length : Int)) = false := by
              have : ¬ (l.length : Int) = (p.length : Int) := fun e => hno ⟨HO.out, by omega⟩
              simpa using this
            clear hno
            go_wp2_with fail
            refine HOr.out.mono ?_
            rintro e w3 ⟨rfl, m3, rfl⟩
            have hd : Below w2.heap.size w2 (w2.drewN m3) := below_drewN (Below.refl _ _) m3
            have HB3 := Lib.hid (HB2.out.trans (hd.mono HB2.out.size))
            have HP3 := Lib.hid (HP2.out.over hd (Nat.le_refl _))
            have HQ3 := Lib.hid (HQ2.out.over hd (Nat.le_refl _))
            clear hd
            generalize w2.drewN m3 = w3 at *
            have HRI := Lib.hid (refInverse_any a cap p HO.out hp1 w3 HP3.out)
            go_wp2_with fail
            refine HRI.out.mono ?_
            rintro e w4 ⟨g4, rfl, -, b4, r4⟩
            have HB4 := Lib.hid (HB3.out.trans (b4.mono HB3.out.size))
            have HS := Lib.hid (ints_any (some ⟨g, 0, none⟩) (some ⟨g4, 0, none⟩) p.length p.length (invL p) (invL p) w4 (HQ3.out.over b4 (Nat.le_refl _)) r4 (by omega))
            rw [hil, decide_eq_true (rfl : invL p = invL p)] at HS
            clear b4 r4
            go_wp2_with fail
            refine HS.out.mono ?_
            rintro e w5 ⟨rfl, m5, rfl⟩
            have HB5 := Lib.hid (below_drewN HB4.out m5)
            generalize w4.drewN m5 = w5 at *
            have HW := Lib.hid (awake_any w5)
            go_wp2_with fail
            refine HW.out.mono ?_
            rintro e w8 ⟨rfl, b8⟩
            have HB8 := Lib.hid (HB5.out.trans (b8.mono HB5.out.size))
            clear b8
            go_wp2
            go_ret
            exact ⟨rfl, HB8.out⟩
        · exact absurd HO.out h1.1
      · have HO := Lib.hid ho
        have HB : Hid (ordB p = false) := Lib.hid (decide_eq_false ho)
        clear ho
        go_enter Try.func4, Try.ntmps4
        go_wp2_with fail
        refine HI.out.mono ?_
        rintro e w1 ⟨h1 | h1, b1⟩
        · exact absurd h1.1 HO.out
        · obtain ⟨-, rfl⟩ := h1
          have HB1 := Lib.hid b1
          have HP1 := Lib.hid (HP.out.over b1 (Nat.le_refl _))
          have HL1 := Lib.hid (HL.out.over b1 (Nat.le_refl _))
          clear b1
          have HAp := Lib.hid (apply_any a a2 cap cap2 p l hp1 w1 HP1.out HL1.out)
          go_wp2_with fail
          refine HAp.out.mono ?_
          rintro e w2 ⟨h2 | h2, b2⟩
          · exact absurd h2.1.1 HO.out
          · obtain ⟨-, rfl⟩ := h2
            have HB2 := Lib.hid (HB1.out.trans (b2.mono HB1.out.size))
            have HOr := Lib.hid (refOrder_any a cap p hp1 w2 (HP1.out.over b2 (Nat.le_refl _)))
            rw [HB.out] at HOr
            clear b2
            go_wp2_with fail
            refine HOr.out.mono ?_
            rintro e w3 ⟨rfl, m3, rfl⟩
            have HB3 := Lib.hid (below_drewN HB2.out m3)
            generalize w2.drewN m3 = w3 at *
            have HW := Lib.hid (awake_any w3)
            go_wp2_with fail
            refine HW.out.mono ?_
            rintro e w4 ⟨rfl, b4⟩
            have HB4 := Lib.hid (HB3.out.trans (b4.mono HB3.out.size))
            clear b4
            go_wp2
            go_ret
            exact ⟨rfl, HB4.out⟩
theorem own : ownKnob Try.prog.godebug = none := by kernel_rfl
theorem laidOut : laidOutB Try.prog = true := by kernel_rfl
set_option maxRecDepth 100000 in
theorem lifted (os : Os) (started : os.Started) (H : Type) (enc : TypeId × Value → H) :
    ReturnsInHanded {} Try.checked os 4 .any (Rows.rankTurnsSpec.pre6 enc Try.prog Try.f4 Rows.rankTurnsRow.domain false) (Rows.rankTurnsSpec.post enc Try.prog Try.f4 false true false false) := by
  refine returnsInHanded_of_change (C := Try.checked) own started (by kernel_rfl) Try.func4
    (ChangeSpec.witness6 (enc := enc) (C := Try.checked) false ⟨#[], #[.slice none 0 0, .slice none 0 0], []⟩ 8 (by kernel_rfl) (by kernel_rfl) (by kernel_rfl) (by kernel_rfl)) ?_
  intro W base args ds gs before hval0 hW hcnd _
  have hval : ∀ (j : Nat) t v, Try.f4.params[j]? = some t → args[j]? = some v → Value.okWide Try.prog W .any base t v := hval0
  have hW' := hW
  obtain ⟨p, q, hA0, hV, rfl, hfz, hnd⟩ := hW
  have hA : DataW.TrodAll enc Try.prog W 0 (fun _ => true) true Try.f4.params.toList args.toList ds p := hA0
  rw [Try.params4] at hA hval
  obtain ⟨v0, vs0, d0, ds0, p0, q0, hargs, rfl, rfl, h0, r0⟩ := trodAll_cons hA
  obtain ⟨v1, vs1, d1, ds1, p1, q1, rfl, rfl, rfl, h1, r1⟩ := trodAll_cons r0
  obtain ⟨rfl, rfl, rfl⟩ := trodAll_nil r1
  obtain rfl : args = #[v0, v1] := by cases args; simp_all
  obtain ⟨rfl, rfl⟩ := trodVars_none hV
  obtain ⟨a0, len0, cap0, rfl⟩ := okWide_slice Try.underlying26 (hval 0 26 v0 rfl rfl)
  have k0 := h0
  have lt0 : ∀ x ∈ p0, x.block < W.heap.size := by obtain ⟨m, hm⟩ := k0; exact DataW.trod_lt m _ _ _ hm
  obtain ⟨l0, hlen0, w0⟩ : ∃ l : List Int, l.length = len0 ∧ ReadsL encZ W.heap.size W a0 l ∧ l.length ≤ maxLen := by
    obtain ⟨fuel, hf⟩ := h0
    exact open_intsL hf
  subst hlen0
  obtain ⟨a1, len1, cap1, rfl⟩ := okWide_slice Try.underlying26 (hval 1 26 v1 rfl rfl)
  have k1 := h1
  have lt1 : ∀ x ∈ p1, x.block < W.heap.size := by obtain ⟨m, hm⟩ := k1; exact DataW.trod_lt m _ _ _ hm
  obtain ⟨l1, hlen1, w1⟩ : ∃ l : List Int, l.length = len1 ∧ ReadsL encZ W.heap.size W a1 l ∧ l.length ≤ maxLen := by
    obtain ⟨fuel, hf⟩ := h1
    exact open_intsL hf
  subst hlen1
  clear hA0 hval0
  refine (walk_list a0 cap0 l0 a1 cap1 l1 W w0.1 w0.2 w1.1 w1.2).mono fun e W' ⟨he, bel⟩ => ?_
  subst he
  exact ⟨_, rfl, _, _, _, [], _, [], hW', trodAll_mk1 (shut_bool Try.underlying4 _), (trodAll_cons_mk (Below.trod laidOut (by kernel_rfl) (of_decide_eq_true (by kernel_rfl)) k0 bel lt0) (trodAll_cons_mk (Below.trod laidOut (by kernel_rfl) (of_decide_eq_true (by kernel_rfl)) k1 bel lt1) trodAll_mk0)), rfl, bel.frame _, fun h => by cases h⟩
theorem over : Rows.rankTurnsRow.holds Try.pinned (OpenSpec.ofChange Rows.rankTurnsSpec) :=
  OpenClaim.holds_of_wide 4 Try.f4 rfl rfl rfl rfl rfl rfl rfl ⟨rfl, rfl, rfl, rfl, rfl⟩ rfl rfl rfl rfl rfl (by kernel_rfl) Try.func4 (by kernel_rfl)
    (of_decide_eq_true (by kernel_rfl)) (by unfold Func.isWrapper; first | (rw [if_pos (by decide +kernel)]; kernel_rfl) | (rw [if_neg (by decide +kernel)]; exact ⟨rfl, rfl⟩))
    (fun os started H enc _ => lifted os started H enc)
/-- The statement. -/
theorem proved : Rows.RankTurnsSaid := over
#print axioms proved
end Go.Proofs.Ytemcbhbobfjnkaa.rankTurns
