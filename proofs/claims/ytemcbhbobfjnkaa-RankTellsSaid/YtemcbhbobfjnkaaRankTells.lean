/- RankTells is proved: the program tells the order of any keys, where each stands in it, the one in the middle, and the unlike ones, as the document does; of more than 200 keys the law asks only that the program is awake. No condition. -/
import Derived.Test.YtemcbhbobfjnkaaRankAwake
import Derived.Test.YtemcbhbobfjnkaaOpenI64
import Derived.Test.YtemcbhbobfjnkaaSame
import Derived.Test.YtemcbhbobfjnkaaChecked
import Derived.Test.YtemcbhbobfjnkaaRows
import Derived.Below
namespace Go.Proofs.Ytemcbhbobfjnkaa.rankTells
open Go.RowKit Go.ChangeShapes Go.WideShapes Go.ChangeAt RankPure
theorem same_any (p q : Option Addr) (c d : Nat) (l : List Int) (w : World) (h1 : ReadsL encZ w.heap.size w p l) (h2 : ReadsL encZ w.heap.size w q l) (hlen : l.length ≤ 1000) :
    Calls Try.prog 13 #[.slice p l.length c, .slice q l.length d] w fun e w' => e = .returned (.bool true) ∧ Below w.heap.size w w' := sameL_any p q c d l w h1 h2 (by omega)
set_option maxHeartbeats 1000000 in
/-- What the law asks behind the key in the middle. -/
theorem rest (a : Option Addr) (l : List Int) (hl : l.length ≤ 1000) (w : World) (hR : ReadsL encZ w.heap.size w a l) (q : Option Addr) (hP : ReadsL encZ w.heap.size w q (zs (byL l))) (c d : Nat) :
    (Calls Try.prog 10 #[.slice a l.length c] w fun e w1 => (∃ g, e = .returned (.slice (some ⟨g, 0, none⟩) l.length l.length) ∧
      Calls Try.prog 9 #[.slice (some ⟨g, 0, none⟩) l.length l.length, .slice q l.length d] w1 fun e w2 => e = .returned (.bool true) ∧
      Calls Try.prog 11 #[.slice a l.length c] w2 fun e w3 => (∃ g3, e = .returned (.slice (some ⟨g3, 0, none⟩) l.length l.length) ∧
      Calls Try.prog 12 #[.slice a l.length c] w3 fun e w4 => (∃ g4, e = .returned (.slice (some ⟨g4, 0, none⟩) l.length l.length) ∧
      Calls Try.prog 9 #[.slice (some ⟨g3, 0, none⟩) l.length l.length, .slice (some ⟨g4, 0, none⟩) l.length l.length] w4 fun e w5 => e = .returned (.bool true) ∧
      Calls Try.prog 14 #[.slice a l.length c] w5 fun e w6 => (∃ p6 c6, e = .returned (.slice p6 (distL l).length c6) ∧
      Calls Try.prog 15 #[.slice a l.length c] w6 fun e w7 => (∃ p7 c7, e = .returned (.slice p7 (distL l).length c7) ∧
      Calls Try.prog 13 #[.slice p6 (distL l).length c6, .slice p7 (distL l).length c7] w7 fun e w8 => e = .returned (.bool true) ∧
      Calls Try.prog 6 #[] w8 fun e w9 => e = .returned (.bool true) ∧ Below w.heap.size w w9)))))) := by
  have hzl : (zs (byL l)).length = l.length := by rw [zs_len, byL_len]
  have hil : (invL (zs (byL l))).length = l.length := by rw [invL_len, hzl]
  refine Calls.mono (by_any a c l hl w hR) ?_
  rintro e w1 ⟨g, rfl, -, b1, r1⟩
  refine ⟨g, rfl, ?_⟩
  have i1 := ints_any (some ⟨g, 0, none⟩) q l.length d (zs (byL l)) (zs (byL l)) w1 r1 (hP.over b1 (Nat.le_refl _)) (by omega)
  rw [hzl, decide_eq_true (rfl : zs (byL l) = zs (byL l))] at i1
  refine Calls.mono i1 ?_
  rintro e w2 ⟨rfl, m2, rfl⟩
  refine ⟨rfl, ?_⟩
  have b2 : Below w.heap.size w (w1.drewN m2) := below_drewN b1 m2
  generalize w1.drewN m2 = w2 at *
  refine Calls.mono (of_any a c l hl w2 (hR.over b2 (Nat.le_refl _))) ?_
  rintro e w3 ⟨g3, rfl, -, b3, r3⟩
  refine ⟨g3, rfl, ?_⟩
  have b03 := b2.trans (b3.mono b2.size)
  refine Calls.mono (refOf_any a c l hl w3 (hR.over b03 (Nat.le_refl _))) ?_
  rintro e w4 ⟨⟨g4, rfl, r4⟩, b4⟩
  refine ⟨g4, rfl, ?_⟩
  have b04 := b03.trans (b4.mono b03.size)
  have i4 := ints_any (some ⟨g3, 0, none⟩) (some ⟨g4, 0, none⟩) l.length l.length (invL (zs (byL l))) (invL (zs (byL l))) w4 (r3.over b4 (Nat.le_refl _)) r4 (by omega)
  rw [hil, decide_eq_true (rfl : invL (zs (byL l)) = invL (zs (byL l)))] at i4
  refine Calls.mono i4 ?_
  rintro e w5 ⟨rfl, m5, rfl⟩
  refine ⟨rfl, ?_⟩
  have b05 : Below w.heap.size w (w4.drewN m5) := below_drewN b04 m5
  generalize w4.drewN m5 = w5 at *
  refine Calls.mono (distinct_any a c l hl w5 (hR.over b05 (Nat.le_refl _))) ?_
  rintro e w6 ⟨⟨p6, c6, rfl, r6⟩, b6⟩
  refine ⟨p6, c6, rfl, ?_⟩
  have b06 := b05.trans (b6.mono b05.size)
  refine Calls.mono (refDistinct_any a c l hl w6 (hR.over b06 (Nat.le_refl _))) ?_
  rintro e w7 ⟨⟨p7, c7, rfl, r7⟩, b7⟩
  refine ⟨p7, c7, rfl, ?_⟩
  have b07 := b06.trans (b7.mono b06.size)
  have hdl := distL_len l
  refine Calls.mono (same_any p6 p7 c6 c7 (distL l) w7 (r6.over b7 (Nat.le_refl _)) r7 (by omega)) ?_
  rintro e w8 ⟨rfl, b8⟩
  refine ⟨rfl, ?_⟩
  have b08 := b07.trans (b8.mono b07.size)
  refine Calls.mono (awake_any w8) ?_
  rintro e w9 ⟨rfl, b9⟩
  exact ⟨rfl, b08.trans (b9.mono b08.size)⟩
set_option maxHeartbeats 1000000 in
theorem walk_list (a : Option Addr) (cap : Nat) (l : List Int) (W : World) (hR : ReadsL encZ W.heap.size W a l) (_ : l.length ≤ maxLen) :
    Calls Try.prog 3 #[.slice a l.length cap] W fun e W' => e = .returned (.bool true) ∧ Below W.heap.size W W' := by
  by_cases hlen : 200 < l.length
  · have i0 : (200 : Int) < (l.length : Int) := by omega
    have HA := Lib.hid (awake_any W)
    clear hR
    go_enter Try.func3, Try.ntmps3
    go_wp2_with (go_at_call 6; refine HA.out.mono ?_; rintro e w1 ⟨rfl, hb1⟩)
    go_ret
    exact ⟨rfl, hb1⟩
  · have i0 : ¬ (200 : Int) < (l.length : Int) := by omega
    have hl : l.length ≤ 1000 := by omega
    have HM := Lib.hid (median_any a cap l hl W hR)
    have HR := Lib.hid hR
    clear hR
    go_enter Try.func3, Try.ntmps3
    go_wp2_with fail
    refine HM.out.mono ?_
    rintro e w1 ⟨h1, hb1⟩
    have HB1 := Lib.hid hb1
    have HR1 := Lib.hid (HR.out.over hb1 (Nat.le_refl _))
    have HY := Lib.hid (refBy_any a cap l hl w1 HR1.out)
    clear hb1
    rcases h1 with ⟨hnil, rfl⟩ | ⟨hpos, rfl⟩
    · subst hnil
      go_wp2_with fail
      refine HY.out.mono ?_
      rintro e w2 ⟨⟨q, c2, rfl, hr2⟩, hb2⟩
      have HB2 := Lib.hid (HB1.out.trans (hb2.mono HB1.out.size))
      have HQ := Lib.hid (rest a [] hl w2 (HR1.out.over hb2 (Nat.le_refl _)) q hr2 cap c2)
      clear hb2 hr2
      go_wp2_with fail
      refine HQ.out.mono ?_
      rintro e w3 ⟨g3, rfl, K3⟩
      have K := Lib.hid K3
      clear K3
      go_wp2_with fail
      refine K.out.mono ?_
      rintro e w4 ⟨rfl, K3⟩
      have K := Lib.hid K3
      clear K3
      go_wp2_with fail
      refine K.out.mono ?_
      rintro e w5 ⟨g5, rfl, K3⟩
      have K := Lib.hid K3
      clear K3
      go_wp2_with fail
      refine K.out.mono ?_
      rintro e w6 ⟨g6, rfl, K3⟩
      have K := Lib.hid K3
      clear K3
      go_wp2_with fail
      refine K.out.mono ?_
      rintro e w7 ⟨rfl, K3⟩
      have K := Lib.hid K3
      clear K3
      go_wp2_with fail
      refine K.out.mono ?_
      rintro e w8 ⟨g8, c8, rfl, K3⟩
      have K := Lib.hid K3
      clear K3
      go_wp2_with fail
      refine K.out.mono ?_
      rintro e w9 ⟨g9, c9, rfl, K3⟩
      have K := Lib.hid K3
      clear K3
      go_wp2_with fail
      refine K.out.mono ?_
      rintro e w10 ⟨rfl, K3⟩
      have K := Lib.hid K3
      clear K3
      go_wp2_with fail
      refine K.out.mono ?_
      rintro e w11 ⟨rfl, hb⟩
      have HB := Lib.hid (HB2.out.trans (hb.mono HB2.out.size))
      clear hb
      go_wp2
      go_ret
      exact ⟨rfl, HB.out⟩
    · have hp0 : (0 : Int) < (l.length : Int) := by omega
      have hmid : (l.length - 1) / 2 < l.length := by omega
      go_wp2_with fail
      refine HY.out.mono ?_
      rintro e w2 ⟨⟨q, c2, rfl, hr2⟩, hb2⟩
      have HB2 := Lib.hid (HB1.out.trans (hb2.mono HB1.out.size))
      have HQ := Lib.hid (rest a l hl w2 (HR1.out.over hb2 (Nat.le_refl _)) q hr2 cap c2)
      have hzl : (zs (byL l)).length = l.length := by rw [zs_len, byL_len]
      obtain ⟨b, off, rfl, hbN, d1⟩ := hr2.at (show (l.length - 1) / 2 < (zs (byL l)).length by omega)
      have hbl : (byL l)[(l.length - 1) / 2]'(by rw [byL_len]; exact hmid) < l.length := byL_lt l (List.getElem_mem _)
      obtain ⟨b', off', rfl, hbN', d2⟩ := (HR1.out.over hb2 (Nat.le_refl _)).at hbl
      rw [zs_at (by rw [byL_len]; exact hmid)] at d1
      have hmv : medV l = l[(byL l)[(l.length - 1) / 2]'(by rw [byL_len]; exact hmid)]'hbl := by
        rw [medV_at hpos, sortK_at l hmid, getD_at]
      rw [← hmv] at d2
      have i1 : (((l.length - 1) / 2 : Nat) : Int) < (l.length : Int) := by omega
      have i2 : (((byL l)[(l.length - 1) / 2]'(by rw [byL_len]; exact hmid) : Nat) : Int) < (l.length : Int) := by omega
      unfold encZ at d1 d2
      clear hmv hzl hr2 hb2
      generalize (byL l)[(l.length - 1) / 2]'(by rw [byL_len]; exact hmid) = y at *
      go_wp2_with fail
      refine HQ.out.mono ?_
      rintro e w3 ⟨g3, rfl, K3⟩
      have K := Lib.hid K3
      clear K3
      go_wp2_with fail
      refine K.out.mono ?_
      rintro e w4 ⟨rfl, K3⟩
      have K := Lib.hid K3
      clear K3
      go_wp2_with fail
      refine K.out.mono ?_
      rintro e w5 ⟨g5, rfl, K3⟩
      have K := Lib.hid K3
      clear K3
      go_wp2_with fail
      refine K.out.mono ?_
      rintro e w6 ⟨g6, rfl, K3⟩
      have K := Lib.hid K3
      clear K3
      go_wp2_with fail
      refine K.out.mono ?_
      rintro e w7 ⟨rfl, K3⟩
      have K := Lib.hid K3
      clear K3
      go_wp2_with fail
      refine K.out.mono ?_
      rintro e w8 ⟨g8, c8, rfl, K3⟩
      have K := Lib.hid K3
      clear K3
      go_wp2_with fail
      refine K.out.mono ?_
      rintro e w9 ⟨g9, c9, rfl, K3⟩
      have K := Lib.hid K3
      clear K3
      go_wp2_with fail
      refine K.out.mono ?_
      rintro e w10 ⟨rfl, K3⟩
      have K := Lib.hid K3
      clear K3
      go_wp2_with fail
      refine K.out.mono ?_
      rintro e w11 ⟨rfl, hb⟩
      have HB := Lib.hid (HB2.out.trans (hb.mono HB2.out.size))
      clear hb
      go_wp2
      go_ret
      exact ⟨rfl, HB.out⟩
theorem own : ownKnob Try.prog.godebug = none := by kernel_rfl
theorem laidOut : laidOutB Try.prog = true := by kernel_rfl
set_option maxRecDepth 100000 in
theorem lifted (os : Os) (started : os.Started) (H : Type) (enc : TypeId × Value → H) :
    ReturnsInHanded {} Try.checked os 3 .any (Rows.rankTellsSpec.pre6 enc Try.prog Try.f3 Rows.rankTellsRow.domain false) (Rows.rankTellsSpec.post enc Try.prog Try.f3 false true false false) := by
  refine returnsInHanded_of_change (C := Try.checked) own started (by kernel_rfl) Try.func3
    (ChangeSpec.witness6 (enc := enc) (C := Try.checked) false ⟨#[], #[.slice none 0 0], []⟩ 8 (by kernel_rfl) (by kernel_rfl) (by kernel_rfl) (by kernel_rfl)) ?_
  intro W base args ds gs before hval0 hW hcnd _
  have hval : ∀ (j : Nat) t v, Try.f3.params[j]? = some t → args[j]? = some v → Value.okWide Try.prog W .any base t v := hval0
  have hW' := hW
  obtain ⟨p, q, hA0, hV, rfl, hfz, hnd⟩ := hW
  have hA : DataW.TrodAll enc Try.prog W 0 (fun _ => true) true Try.f3.params.toList args.toList ds p := hA0
  rw [Try.params3] at hA hval
  obtain ⟨v0, vs0, d0, ds0, p0, q0, hargs, rfl, rfl, h0, r0⟩ := trodAll_cons hA
  obtain ⟨rfl, rfl, rfl⟩ := trodAll_nil r0
  obtain rfl : args = #[v0] := by cases args; simp_all
  obtain ⟨rfl, rfl⟩ := trodVars_none hV
  obtain ⟨a0, len0, cap0, rfl⟩ := okWide_slice Try.underlying22 (hval 0 22 v0 rfl rfl)
  have k0 := h0
  have lt0 : ∀ x ∈ p0, x.block < W.heap.size := by obtain ⟨m, hm⟩ := k0; exact DataW.trod_lt m _ _ _ hm
  obtain ⟨l0, hlen0, w0⟩ : ∃ l : List Int, l.length = len0 ∧ ReadsL encZ W.heap.size W a0 l ∧ l.length ≤ maxLen := by
    obtain ⟨fuel, hf⟩ := h0
    exact open_int64sL hf
  subst hlen0
  clear hA0 hval0
  refine (walk_list a0 cap0 l0 W w0.1 w0.2).mono fun e W' ⟨he, bel⟩ => ?_
  subst he
  exact ⟨_, rfl, _, _, _, [], _, [], hW', trodAll_mk1 (shut_bool Try.underlying4 _), (trodAll_cons_mk (Below.trod laidOut (by kernel_rfl) (of_decide_eq_true (by kernel_rfl)) k0 bel lt0) trodAll_mk0), rfl, bel.frame _, fun h => by cases h⟩
theorem over : Rows.rankTellsRow.holds Try.pinned (OpenSpec.ofChange Rows.rankTellsSpec) :=
  OpenClaim.holds_of_wide 3 Try.f3 rfl rfl rfl rfl rfl rfl rfl ⟨rfl, rfl, rfl, rfl, rfl⟩ rfl rfl rfl rfl rfl (by kernel_rfl) Try.func3 (by kernel_rfl)
    (of_decide_eq_true (by kernel_rfl)) (by unfold Func.isWrapper; first | (rw [if_pos (by decide +kernel)]; kernel_rfl) | (rw [if_neg (by decide +kernel)]; exact ⟨rfl, rfl⟩))
    (fun os started H enc _ => lifted os started H enc)
/-- The statement. -/
theorem proved : Rows.RankTellsSaid := over
#print axioms proved
end Go.Proofs.Ytemcbhbobfjnkaa.rankTells
