/- RankBack is proved: the inverse of the inverse of the order of any keys is that order, and the order put in itself and then in its inverse is itself; of more than 200 keys the law asks only that the program is awake. No condition. -/
import Derived.Test.YtemcbhbobfjnkaaRankAwake
import Derived.Test.YtemcbhbobfjnkaaOpenI64
import Derived.Test.YtemcbhbobfjnkaaChecked
import Derived.Test.YtemcbhbobfjnkaaRows
import Derived.Below
namespace Go.Proofs.Ytemcbhbobfjnkaa.rankBack
open Go.RowKit Go.ChangeShapes Go.WideShapes Go.ChangeAt RankPure
set_option maxHeartbeats 1000000 in
theorem walk_list (a : Option Addr) (cap : Nat) (l : List Int) (W : World) (hR : ReadsL encZ W.heap.size W a l) (_ : l.length ≤ maxLen) :
    Calls Try.prog 5 #[.slice a l.length cap] W fun e W' => e = .returned (.bool true) ∧ Below W.heap.size W W' := by
  by_cases hlen : 200 < l.length
  · have i0 : (200 : Int) < (l.length : Int) := by omega
    have HA := Lib.hid (awake_any W)
    clear hR
    go_enter Try.func5, Try.ntmps5
    go_wp2_with (go_at_call 6; refine HA.out.mono ?_; rintro e w1 ⟨rfl, hb1⟩)
    go_ret
    exact ⟨rfl, hb1⟩
  · have i0 : ¬ (200 : Int) < (l.length : Int) := by omega
    have hl : l.length ≤ 1000 := by omega
    have HP := Lib.hid (byZ_ord l)
    have HQ := Lib.hid (invL_ord (byZ_ord l))
    have hpl : (zs (byL l)).length = l.length := by rw [zs_len, byL_len]
    have hql : (invL (zs (byL l))).length = l.length := by rw [invL_len, hpl]
    have HV := Lib.hid (And.intro (invL_invL (byZ_ord l)) (apply_back (byZ_ord l)))
    generalize hp : zs (byL l) = p at *
    have HN := Lib.hid hp
    have H1 := Lib.hid (by_any a cap l hl W hR)
    rw [hp] at H1
    have HR := Lib.hid hR
    clear hR hp
    go_enter Try.func5, Try.ntmps5
    go_wp2_with fail
    refine H1.out.mono ?_
    rintro e w1 ⟨g, rfl, -, hb1, hr1⟩
    have HB1 := Lib.hid hb1
    have HR1 := Lib.hid (HR.out.over hb1 (Nat.le_refl _))
    have HP1 := Lib.hid hr1
    clear hb1 hr1
    have H2 := Lib.hid (inverse_any (some ⟨g, 0, none⟩) l.length p (by omega) w1 HP1.out)
    rw [hpl] at H2
    go_wp2_with fail
    refine H2.out.mono ?_
    rintro e w2 ⟨h2 | h2, hb2⟩
    · obtain ⟨-, g2, rfl, -, hr2⟩ := h2
      rw [hpl]
      have HB2 := Lib.hid (HB1.out.trans (hb2.mono HB1.out.size))
      have HR2 := Lib.hid (HR1.out.over hb2 (Nat.le_refl _))
      have HP2 := Lib.hid (HP1.out.over hb2 (Nat.le_refl _))
      have HQ2 := Lib.hid hr2
      clear hb2 hr2
      have H3 := Lib.hid (inverse_any (some ⟨g2, 0, none⟩) l.length (invL p) (by omega) w2 HQ2.out)
      rw [hql] at H3
      go_wp2_with fail
      refine H3.out.mono ?_
      rintro e w3 ⟨h3 | h3, hb3⟩
      · obtain ⟨-, g3, rfl, -, hr3⟩ := h3
        rw [hql]
        rw [HV.out.1] at hr3
        have HB3 := Lib.hid (HB2.out.trans (hb3.mono HB2.out.size))
        have HR3 := Lib.hid (HR2.out.over hb3 (Nat.le_refl _))
        have HP3 := Lib.hid (HP2.out.over hb3 (Nat.le_refl _))
        have HQ3 := Lib.hid (HQ2.out.over hb3 (Nat.le_refl _))
        have HV3 := Lib.hid hr3
        clear hb3 hr3
        have H4 := Lib.hid (apply_any (some ⟨g, 0, none⟩) (some ⟨g, 0, none⟩) l.length l.length p p (by omega) w3 HP3.out HP3.out)
        rw [hpl] at H4
        go_wp2_with fail
        refine H4.out.mono ?_
        rintro e w4 ⟨h4 | h4, hb4⟩
        · obtain ⟨-, g4, rfl, -, hr4⟩ := h4
          rw [hpl]
          have hml : (applyL p p).length = l.length := by rw [applyL_len, hpl]
          have HB4 := Lib.hid (HB3.out.trans (hb4.mono HB3.out.size))
          have HR4 := Lib.hid (HR3.out.over hb4 (Nat.le_refl _))
          have HP4 := Lib.hid (HP3.out.over hb4 (Nat.le_refl _))
          have HQ4 := Lib.hid (HQ3.out.over hb4 (Nat.le_refl _))
          have HV4 := Lib.hid (HV3.out.over hb4 (Nat.le_refl _))
          have HM4 := Lib.hid hr4
          clear hb4 hr4
          have H5 := Lib.hid (apply_any (some ⟨g2, 0, none⟩) (some ⟨g4, 0, none⟩) l.length l.length (invL p) (applyL p p) (by omega) w4 HQ4.out HM4.out)
          rw [hql, hml] at H5
          have HML := Lib.hid hml
          clear hml
          go_wp2_with fail
          refine H5.out.mono ?_
          rintro e w5 ⟨h5 | h5, hb5⟩
          · obtain ⟨-, g5, rfl, -, hr5⟩ := h5
            rw [hql]
            rw [HV.out.2] at hr5
            have HB5 := Lib.hid (HB4.out.trans (hb5.mono HB4.out.size))
            have HR5 := Lib.hid (HR4.out.over hb5 (Nat.le_refl _))
            have HP5 := Lib.hid (HP4.out.over hb5 (Nat.le_refl _))
            have HQ5 := Lib.hid (HQ4.out.over hb5 (Nat.le_refl _))
            have HV5 := Lib.hid (HV4.out.over hb5 (Nat.le_refl _))
            have HN5 := Lib.hid hr5
            clear hb5 hr5
            have H6 := Lib.hid (ints_any (some ⟨g3, 0, none⟩) (some ⟨g, 0, none⟩) l.length l.length p p w5 HV5.out HP5.out (by omega))
            rw [hpl, decide_eq_true (rfl : p = p)] at H6
            go_wp2_with fail
            refine H6.out.mono ?_
            rintro e w6 ⟨rfl, m6, rfl⟩
            have hd6 : Below w5.heap.size w5 (w5.drewN m6) := below_drewN (Below.refl _ _) m6
            have H7 := Lib.hid (ints_any (some ⟨g5, 0, none⟩) (some ⟨g, 0, none⟩) l.length l.length p p (w5.drewN m6) (HN5.out.over hd6 (Nat.le_refl _)) (HP5.out.over hd6 (Nat.le_refl _)) (by omega))
            rw [hpl, decide_eq_true (rfl : p = p)] at H7
            have HB6 := Lib.hid (HB5.out.trans (hd6.mono HB5.out.size))
            have HR6 := Lib.hid (HR5.out.over hd6 (Nat.le_refl _))
            have HQ6 := Lib.hid (HQ5.out.over hd6 (Nat.le_refl _))
            clear hd6
            generalize w5.drewN m6 = w6 at *
            go_wp2_with fail
            refine H7.out.mono ?_
            rintro e w7 ⟨rfl, m7, rfl⟩
            have hd7 : Below w6.heap.size w6 (w6.drewN m7) := below_drewN (Below.refl _ _) m7
            have HB7 := Lib.hid (HB6.out.trans (hd7.mono HB6.out.size))
            have HR7 := Lib.hid (HR6.out.over hd7 (Nat.le_refl _))
            have HQ7 := Lib.hid (HQ6.out.over hd7 (Nat.le_refl _))
            clear hd7
            generalize w6.drewN m7 = w7 at *
            have H8 := Lib.hid (of_any a cap l hl w7 HR7.out)
            rw [HN.out] at H8
            go_wp2_with fail
            refine H8.out.mono ?_
            rintro e w8 ⟨g8, rfl, -, hb8, hr8⟩
            have HB8 := Lib.hid (HB7.out.trans (hb8.mono HB7.out.size))
            have H9 := Lib.hid (ints_any (some ⟨g2, 0, none⟩) (some ⟨g8, 0, none⟩) l.length l.length (invL p) (invL p) w8 (HQ7.out.over hb8 (Nat.le_refl _)) hr8 (by omega))
            rw [hql, decide_eq_true (rfl : invL p = invL p)] at H9
            clear hb8 hr8
            go_wp2_with fail
            refine H9.out.mono ?_
            rintro e w9 ⟨rfl, m9, rfl⟩
            have HB9 := Lib.hid (below_drewN HB8.out m9)
            generalize w8.drewN m9 = w9 at *
            have H10 := Lib.hid (awake_any w9)
            go_wp2_with fail
            refine H10.out.mono ?_
            rintro e w10 ⟨rfl, hb10⟩
            have HB10 := Lib.hid (HB9.out.trans (hb10.mono HB9.out.size))
            clear hb10
            go_wp2
            go_ret
            exact ⟨rfl, HB10.out⟩
          · exact absurd ⟨HQ.out, by rw [HML.out, hql]⟩ h5.1
        · exact absurd ⟨HP.out, rfl⟩ h4.1
      · exact absurd HQ.out h3.1
    · exact absurd HP.out h2.1
theorem own : ownKnob Try.prog.godebug = none := by kernel_rfl
theorem laidOut : laidOutB Try.prog = true := by kernel_rfl
set_option maxRecDepth 100000 in
theorem lifted (os : Os) (started : os.Started) (H : Type) (enc : TypeId × Value → H) :
    ReturnsInHanded {} Try.checked os 5 .any (Rows.rankBackSpec.pre6 enc Try.prog Try.f5 Rows.rankBackRow.domain false) (Rows.rankBackSpec.post enc Try.prog Try.f5 false true false false) := by
  refine returnsInHanded_of_change (C := Try.checked) own started (by kernel_rfl) Try.func5
    (ChangeSpec.witness6 (enc := enc) (C := Try.checked) false ⟨#[], #[.slice none 0 0], []⟩ 8 (by kernel_rfl) (by kernel_rfl) (by kernel_rfl) (by kernel_rfl)) ?_
  intro W base args ds gs before hval0 hW hcnd _
  have hval : ∀ (j : Nat) t v, Try.f5.params[j]? = some t → args[j]? = some v → Value.okWide Try.prog W .any base t v := hval0
  have hW' := hW
  obtain ⟨p, q, hA0, hV, rfl, hfz, hnd⟩ := hW
  have hA : DataW.TrodAll enc Try.prog W 0 (fun _ => true) true Try.f5.params.toList args.toList ds p := hA0
  rw [Try.params5] at hA hval
  obtain ⟨v0, vs0, d0, ds0, p0, q0, hargs, rfl, rfl, h0, r0⟩ := trodAll_cons hA
  obtain ⟨rfl, rfl, rfl⟩ := trodAll_nil r0
  obtain rfl : args = #[v0] := by cases args; simp_all
  obtain ⟨rfl, rfl⟩ := trodVars_none hV
  obtain ⟨a0, len0, cap0, rfl⟩ := okWide_slice Try.underlying22 (hval 0 22 v0 rfl rfl)
  have k0 := h0
  have lt0 : ∀ x ∈ p0, x.block < W.heap.size := by obtain ⟨m, hm⟩ := k0; exact DataW.trod_lt m _ _ _ hm
  obtain ⟨l0, hlen0, w0⟩ : ∃ l : List Int, l.length = len0 ∧ ReadsL encZ W.heap.size W a0 l ∧ l.length ≤ maxLen := by
    obtain ⟨fuel, hf⟩ := h0
    exact open_int64sL hf
  subst hlen0
  clear hA0 hval0
  refine (walk_list a0 cap0 l0 W w0.1 w0.2).mono fun e W' ⟨he, bel⟩ => ?_
  subst he
  exact ⟨_, rfl, _, _, _, [], _, [], hW', trodAll_mk1 (shut_bool Try.underlying4 _), (trodAll_cons_mk (Below.trod laidOut (by kernel_rfl) (of_decide_eq_true (by kernel_rfl)) k0 bel lt0) trodAll_mk0), rfl, bel.frame _, fun h => by cases h⟩
theorem over : Rows.rankBackRow.holds Try.pinned (OpenSpec.ofChange Rows.rankBackSpec) :=
  OpenClaim.holds_of_wide 5 Try.f5 rfl rfl rfl rfl rfl rfl rfl ⟨rfl, rfl, rfl, rfl, rfl⟩ rfl rfl rfl rfl rfl (by kernel_rfl) Try.func5 (by kernel_rfl)
    (of_decide_eq_true (by kernel_rfl)) (by unfold Func.isWrapper; first | (rw [if_pos (by decide +kernel)]; kernel_rfl) | (rw [if_neg (by decide +kernel)]; exact ⟨rfl, rfl⟩))
    (fun os started H enc _ => lifted os started H enc)
/-- The statement. -/
theorem proved : Rows.RankBackSaid := over
#print axioms proved
end Go.Proofs.Ytemcbhbobfjnkaa.rankBack
