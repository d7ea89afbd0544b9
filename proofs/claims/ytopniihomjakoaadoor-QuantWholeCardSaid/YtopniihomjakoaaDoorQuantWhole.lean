/- By its own step a list of floats is whole, or beyond what there is room for; what was scaled leads back, but for -0; with a greater step it does not fit, as quant answers. Conditions: none: every slice of words (of more than a hundred the law asks only that the program scales floats at all), every number to go up by; the library's table of de Bruijn holds what the program's text lays into it, and the card ties that to the text. -/
import Derived.Test.YtopniihomjakoaaDoorFbitLaid
import Derived.Test.YtopniihomjakoaaDoorQuantAwake
import Derived.Test.YtopniihomjakoaaDoorQuantBack
import Derived.Test.YtopniihomjakoaaDoorQuantLead
import Derived.Test.YtopniihomjakoaaDoorTie
import Derived.Test.YtopniihomjakoaaDoorCards
import Derived.SevenTiedAt
import Derived.Carry
namespace Go.Proofs.YtopniihomjakoaaDoor.quantWhole
open Go.ChangeShapes Go.WideShapes Go.ChangeAt Go.RowKit FbitPure QuantPure
theorem laidOut : laidOutB Tryd.prog = true := by kernel_rfl
theorem backs_bits (K : Int) (l : List Int) (hr : RngI l) (k : Nat) (hk : k < (backs K l).length) : ((backs K l)[k] : Int) ≤ 18446744073709551615 ∧ bitsN (backs K l)[k] = (backs K l)[k] := by
  have hmem := List.getElem_mem hk
  generalize (backs K l)[k] = y at hmem
  unfold backs at hmem
  split at hmem
  · obtain ⟨n, hn, rfl⟩ := List.mem_map.1 hmem
    obtain ⟨j, hj, rfl⟩ := List.getElem_of_mem hn
    have := hr j hj
    have h := make_lt (decide (l[j] < 0)) l[j].natAbs K (by omega)
    unfold backW
    exact ⟨by omega, h.2⟩
  · simp at hmem
theorem backBits_any (y : Nat) (h1 : (y : Int) ≤ 18446744073709551615) (h2 : bitsN y = y) (w : World) :
    Calls Tryd.prog 16 #[.float .f64 y] w fun e w' => e = .returned (.int .u64 (y : Int)) ∧ w = w' :=
  (bits_any y h1 w).mono fun _ _ ⟨g1, g2⟩ => ⟨by rw [g1, h2], g2⟩
/-- What leads back, place by place: a float whose bits are told, and the word that was there. -/
theorem place_back (l : List Nat) (hr : WideL l) (k : Int) (h : errAt (cntE k) l = 0) (i : Nat) (hi : i < l.length) :
    ∃ y, (backs k (cnts k l))[i]? = some y ∧ (y : Int) ≤ 18446744073709551615 ∧ bitsN y = y ∧ ((y : Int) = (l[i] : Int) ∨ (l[i] : Int) = 9223372036854775808) := by
  obtain ⟨_, hl, hall⟩ := leads l hr k h
  have hb : i < (backs k (cnts k l)).length := by omega
  have hbb := backs_bits k (cnts k l) (cnts_rng l k) i hb
  refine ⟨_, List.getElem?_eq_getElem hb, hbb.1, hbb.2, ?_⟩
  rcases hall i hi with e | e
  · left; rw [e]
  · right; rw [e]; rfl
theorem leads_len (l : List Nat) (hr : WideL l) (k : Int) (h : errAt (cntE k) l = 0) : backOk k (cnts k l) = true ∧ (backs k (cnts k l)).length = l.length := by
  obtain ⟨h1, h2, _⟩ := leads l hr k h
  exact ⟨h1, h2⟩
set_option maxRecDepth 100000 in
set_option maxHeartbeats 4000000 in
theorem walk_list (a : Option Addr) (cap : Nat) (l : List Nat) (by' : Int) (w : World) (hr : WideL l) (hl : ReadsL encU w.heap.size w a l) (hm : l.length ≤ maxLen) (hy1 : 0 ≤ by') (hy2 : by' ≤ 255) (hT : TabAt 1 Lib.deBruijn64tab w) :
    Calls Tryd.prog 5 #[.slice a l.length cap, .int .u8 by'] w fun e w' => e = .returned (.bool true) ∧ Below w.heap.size w w' := by
  have HT := Lib.hid hT
  have HL := Lib.hid hl
  have HR := Lib.hid hr
  have HM := Lib.hid hm
  clear hT hl hr hm
  by_cases h100 : 100 < l.length
  · have hm : l.length ≤ 9223372036854775807 := by have := HM.out; unfold maxLen at this; omega
    go_enter Tryd.func5, Tryd.ntmps5
    go_wp2_with fail
    refine (qawake_any _ HT.out).mono ?_
    rintro e w1 ⟨rfl, hb1⟩
    have HB := Lib.hid hb1
    clear hb1
    go_wp2
    go_ret
    exact ⟨rfl, HB.out⟩
  have hlen : l.length ≤ 100 := by omega
  obtain ⟨hk1, hk2⟩ := stepK_bounds l
  go_enter Tryd.func5, Tryd.ntmps5
  go_wp2_with fail
  refine (floats_any a cap l w HL.out (by omega)).mono ?_
  rintro e w1 ⟨⟨p, c, rfl, hrd⟩, hb1⟩
  have HF1 := Lib.hid hrd
  have HT1 := Lib.hid (tab_on HT.out (by decide) hb1)
  have HL1 := Lib.hid (HL.out.over hb1 (Nat.le_refl _))
  have HB1 := Lib.hid hb1
  clear hb1 hrd
  go_wp2_with fail
  refine (step_any p c l w1 HR.out HF1.out (by omega) HT1.out).mono ?_
  rintro e w2 ⟨rfl, hb2⟩
  have HF2 := Lib.hid (HF1.out.over hb2 (Nat.le_refl _))
  have HT2 := Lib.hid (tab_on HT1.out (by decide) hb2)
  have HL2 := Lib.hid (HL1.out.over hb2 (Nat.le_refl _))
  have HB2 := Lib.hid (HB1.out.trans (hb2.mono HB1.out.size))
  clear hb2
  go_wp2_with fail
  refine (scale_any p c l (stepK l) w2 HR.out HF2.out (by omega) (by omega) (by omega) HT2.out).mono ?_
  rintro e w3 ⟨⟨q, d, rfl, hrd⟩, hb3⟩
  have HN3 := Lib.hid hrd
  have HF3 := Lib.hid (HF2.out.over hb3 (Nat.le_refl _))
  have HT3 := Lib.hid (tab_on HT2.out (by decide) hb3)
  have HL3 := Lib.hid (HL2.out.over hb3 (Nat.le_refl _))
  have HB3 := Lib.hid (HB2.out.trans (hb3.mono HB2.out.size))
  clear hb3 hrd
  by_cases he : errAt noE l = 0
  case neg =>
    have t1 : (errAt noE l != 0) = true := by simp [he]
    have t2 : (errAt (cntE (stepK l)) l != 0) = true := by simpa using bad_both l (stepK l) he
    generalize errAt (cntE (stepK l)) l = G at *
    generalize errAt noE l = E at *
    clear he
    go_wp2_with fail
    refine (qawake_any _ HT3.out).mono ?_
    rintro e w4 ⟨rfl, hb4⟩
    have HB4 := Lib.hid (HB3.out.trans (hb4.mono HB3.out.size))
    clear hb4
    go_wp2
    go_ret
    exact ⟨rfl, HB4.out⟩
  have HG := Lib.hid (whole_err l he)
  have HLP : Hid (errAt (cntE (stepK l)) l = 10 → 0 < l.length) := Lib.hid fun h => by
    refine Nat.pos_of_ne_zero fun h0 => ?_
    rw [List.length_eq_zero_iff.1 h0] at h
    cases h
  have HPB := Lib.hid (place_back l HR.out (stepK l))
  have HLD := Lib.hid (leads_len l HR.out (stepK l))
  have HFAR := Lib.hid (fun ha => anyN_far l he ha (1 + by') (by omega))
  have hcl := cnts_len (stepK l) l
  have hbl := backs_len (stepK l) (cnts (stepK l) l)
  have hrn := Lib.hid (cnts_rng l (stepK l))
  go_wp2_with fail
  refine (qback_any q d (cnts (stepK l) l) (stepK l) w3 hrn.out HN3.out (by omega) (by omega) (by omega) HT3.out).mono ?_
  rintro e w4 ⟨⟨q2, d2, rfl, hrd⟩, hb4⟩
  have HK4 := Lib.hid hrd
  have HF4 := Lib.hid (HF3.out.over hb4 (Nat.le_refl _))
  have HT4 := Lib.hid (tab_on HT3.out (by decide) hb4)
  have HL4 := Lib.hid (HL3.out.over hb4 (Nat.le_refl _))
  have HB4 := Lib.hid (HB3.out.trans (hb4.mono HB3.out.size))
  clear hb4 hrd
  generalize errAt (cntE (stepK l)) l = G at *
  generalize backs (stepK l) (cnts (stepK l) l) = B at *
  generalize backOk (stepK l) (cnts (stepK l) l) = ok at *
  generalize hkv : stepK l = kk at *
  clear hkv
  have HS := Lib.hid (Below.refl w4.heap.size w4)
  go_wp2
  go_loopw [14] (fun i wr => ∃ n : Nat, i = .int .i64 n ∧ n ≤ l.length ∧ (G = 10 → n = 0) ∧ Hid (Below w4.heap.size w4 wr)) (fun i _ => l.length - (intOf i).toNat)
  case atStart => exact ⟨0, rfl, Nat.zero_le _, fun _ => rfl, HS⟩
  case round =>
    obtain ⟨n, rfl, hn, hn0, HB⟩ := hrel
    have HTr := Lib.hid (tab_on HT4.out (by decide) HB.out)
    have HFr := Lib.hid (HF4.out.over HB.out (Nat.le_refl _))
    have HLr := Lib.hid (HL4.out.over HB.out (Nat.le_refl _))
    have HBr := Lib.hid (HB4.out.trans (HB.out.mono HB4.out.size))
    by_cases hgo : n < l.length ∧ G = 0
    · obtain ⟨hlt, rfl⟩ := hgo
      obtain ⟨t1, t2⟩ := HLD.out rfl
      subst t1
      obtain ⟨y, hy, hy64, hyb, hyx⟩ := HPB.out rfl n hlt
      have hnB : n < B.length := by omega
      obtain ⟨b0, o0, rfl, -, g0⟩ := (HK4.out.on HB.out).at hnB
      obtain ⟨b1, o1, rfl, -, g1⟩ := HLr.out.at hlt
      rw [List.getElem?_eq_getElem hnB] at hy
      rw [Option.some.inj hy] at g0
      unfold encF at g0
      unfold encU at g1
      have HBT := Lib.hid (backBits_any y hy64 hyb)
      have HNB := Lib.hid (below_drewN HB.out)
      have t4 : ((B.length : Int) != (l.length : Int)) = false := by simp [t2]
      clear hy hy64 hyb t2
      generalize ((l[n] : Nat) : Int) = X at *
      generalize ((y : Nat) : Int) = Y at *
      by_cases hYX : Y = X
      · subst hYX
        clear hyx
        go_wp2
        go_quiet ((go_at_call 16; exact Calls.quiet_of_same (flip_same (HBT.out _))))
        go_wp2
        go_roundw
        case rel => exact ⟨n + 1, by go_num, hlt, fun h => absurd h (by decide), HNB.out _⟩
        case measure => (simp [intOf] <;> omega)
      · have hX := hyx.resolve_left hYX
        subst hX
        have t3 : (Y != 9223372036854775808) = true := by simpa using hYX
        clear hyx hYX
        go_wp2
        go_quiet ((go_at_call 16; exact Calls.quiet_of_same (flip_same (HBT.out _))))
        go_wp2
        go_roundw
        case rel => exact ⟨n + 1, by go_num, hlt, fun h => absurd h (by decide), HNB.out _⟩
        case measure => (simp [intOf] <;> omega)
    · have hex : (n = l.length ∧ G = 0) ∨ (n < l.length ∧ G = 10) := by
        rcases HG.out with h | h
        · exact Or.inl ⟨by have := fun hc => hgo ⟨hc, h⟩; omega, h⟩
        · exact Or.inr ⟨by have := hn0 h; have := HLP.out h; omega, h⟩
      have HWR := Lib.hid (Below.refl wr.heap.size wr)
      clear hgo hn0 hn
      rcases hex with ⟨rfl, rfl⟩ | ⟨hx1, rfl⟩
      all_goals
        go_wp2
        generalize hwo : wr = wo at *
        clear hwo
        go_loopw [15, 16] (fun s i wq => ∃ (m : Nat) (bb : Bool), i = .int .i64 m ∧ s = .bool bb ∧ m ≤ l.length ∧ Hid (bb = anyN (l.take m)) ∧ Hid (Below wo.heap.size wo wq)) (fun _ i _ => l.length - (intOf i).toNat)
        case atStart => exact ⟨0, false, rfl, rfl, Nat.zero_le _, Lib.hid rfl, HWR⟩
        case round =>
          obtain ⟨m, bb, rfl, rfl, hm, HA, HQ⟩ := hrel
          by_cases hlt : m < l.length
          · obtain ⟨b1, o1, rfl, -, g1⟩ := (HLr.out.over HQ.out (Nat.le_refl _)).at hlt
            have hx64 := HR.out m hlt
            have HST : Hid (anyN (l.take (m + 1)) = (bb || decide (2 < kindN l[m]))) := Lib.hid (by rw [take_snoc l m hlt, anyN_snoc, HA.out])
            unfold encU at g1
            generalize l[m] = x at *
            cases bb
            · go_wp2_with (first | (go_at_call 17; refine (refKind_any _ hx64 _).mono ?_; rintro e w' ⟨rfl, rfl⟩))
              go_roundw
              case rel => exact ⟨m + 1, decide (2 < kindN x), by go_num, rfl, hlt, Lib.hid (by rw [HST.out]; rfl), HQ⟩
              case measure => (simp [intOf] <;> omega)
            · go_wp2_with (first | (go_at_call 17; refine (refKind_any _ hx64 _).mono ?_; rintro e w' ⟨rfl, rfl⟩))
              go_roundw
              case rel => exact ⟨m + 1, true, by go_num, rfl, hlt, Lib.hid (by rw [HST.out]; rfl), HQ⟩
              case measure => (simp [intOf] <;> omega)
          · have hke : m = l.length := by omega
            subst hke
            rw [List.take_length] at HA
            have HT5 := Lib.hid (tab_on HTr.out (by decide) HQ.out)
            have HF5 := Lib.hid (HFr.out.over HQ.out (Nat.le_refl _))
            have HB5 := Lib.hid (HBr.out.trans (HQ.out.mono HBr.out.size))
            cases bb
            · go_wp2_with fail
              refine (qawake_any _ HT5.out).mono ?_
              rintro e w6 ⟨rfl, hb6⟩
              have HB6 := Lib.hid (HB5.out.trans (hb6.mono HB5.out.size))
              clear hb6
              go_wp2
              go_ret
              exact ⟨rfl, HB6.out⟩
            · go_wp2_with fail
              have hf := HFAR.out HA.out.symm
              rw [show kk + (1 + by') = kk + 1 + by' by omega] at hf
              refine (fits_any p c l (kk + 1 + by') _ HR.out HF5.out (by omega) (by omega) (by omega) HT5.out).mono ?_
              rw [hf]
              rintro e w6 ⟨rfl, hb6⟩
              have HT6 := Lib.hid (tab_on HT5.out (by decide) hb6)
              have HB6 := Lib.hid (HB5.out.trans (hb6.mono HB5.out.size))
              clear hb6
              go_wp2_with fail
              refine (qawake_any _ HT6.out).mono ?_
              rintro e w7 ⟨rfl, hb7⟩
              have HB7 := Lib.hid (HB6.out.trans (hb7.mono HB6.out.size))
              clear hb7
              go_wp2
              go_ret
              exact ⟨rfl, HB7.out⟩
theorem walk (w : World) (a0 : Option Addr) (len0 cap0 : Nat) (z0 : List Int) (w0 : IsRow .u64 w a0 len0 cap0 z0) (b : Int) (w1 : (Lit.int .u8 b).wf = true) (hT : TabAt 1 Lib.deBruijn64tab w) :
    Calls Tryd.prog 5 #[.slice a0 len0 cap0, .int .u8 b] w fun e w' => e = .returned (.bool true) ∧ Below w.heap.size w w' := by
  obtain ⟨l, rfl, h1, h2, h3⟩ := row_readsU w0
  have hb := bounds_u8 w1
  exact walk_list a0 cap0 l b w h1 h2 h3 hb.1 hb.2 hT
set_option maxRecDepth 100000 in
theorem lifted (os : Os) (started : os.Started) (H : Type) (enc : TypeId × Value → H) :
    ReturnsInHanded {} Tryd.checked os 5 .any (fun w args => (Rows.quantWholeSpec.pre enc Tryd.prog Tryd.f5 [] false w args ∧ laidMetH Tryd.prog Rows.quantStepsRow.laid w) ∧ sizedMet enc Tryd.prog Tryd.f5 (OpenSpec.ofChange Rows.quantWholeSpec) false w args)
      (Rows.quantWholeSpec.post enc Tryd.prog Tryd.f5 false true false false) := by
  refine returnsInHanded_of_change_and (C := Tryd.checked) (X := fun w _ => laidMetH Tryd.prog Rows.quantStepsRow.laid w) (fun _ _ _ hh h => h.of_heap hh) own started (by kernel_rfl) Tryd.func5
    (ChangeSpec.witness_at (enc := enc) (C := Tryd.checked) (os := os) (X := fun w _ => laidMetH Tryd.prog Rows.quantStepsRow.laid w) false (laidWorld Tryd.prog os) #[.slice none 0 0, .int .u8 0] 8 rfl (by kernel_rfl) (by kernel_rfl) (by kernel_rfl) (by kernel_rfl) (by kernel_rfl) (laid_met os _)) ?_
  intro W base args ds gs before hval0 hW _ _ hL _
  have hval : ∀ (j : Nat) t v, Tryd.f5.params[j]? = some t → args[j]? = some v → Value.okWide Tryd.prog W .any base t v := hval0
  have hW' := hW
  obtain ⟨p, q, hA0, hV, rfl, hfz, hnd⟩ := hW
  have hA : DataW.TrodAll enc Tryd.prog W 0 (fun _ => true) true Tryd.f5.params.toList args.toList ds p := hA0
  rw [Tryd.params5] at hA hval
  obtain ⟨v0, vs0, d0, ds0, p0, q0, hargs, rfl, rfl, h0, r0⟩ := trodAll_cons hA
  obtain ⟨v1, vs1, d1, ds1, p1, q1, rfl, rfl, rfl, h1, r1⟩ := trodAll_cons r0
  obtain ⟨rfl, rfl, rfl⟩ := trodAll_nil r1
  obtain rfl : args = #[v0, v1] := by cases args; simp_all
  obtain ⟨rfl, rfl⟩ := trodVars_none hV
  obtain ⟨a0, len0, cap0, rfl⟩ := okWide_slice Tryd.underlying22 (hval 0 22 v0 rfl rfl)
  have k0 := h0
  have lt0 : ∀ x ∈ p0, x.block < W.heap.size := by obtain ⟨m, hm⟩ := k0; exact DataW.trod_lt m _ _ _ hm
  obtain ⟨z0, w0⟩ : ∃ zs, IsRow .u64 W a0 len0 cap0 zs := by
    obtain ⟨fuel, hf⟩ := h0
    rcases open_ints Tryd.underlying22 Tryd.underlying46 (by kernel_rfl) hf with ⟨hcs, _⟩ | ⟨x, l, c, zs, hcs, _, hl, hm, hz, _, hcell, hwz⟩
    · simp [Value.cells] at hcs
      obtain ⟨rfl, rfl, rfl⟩ := hcs
      exact ⟨[], .inl ⟨rfl, rfl, rfl, rfl⟩⟩
    · simp [Value.cells] at hcs
      obtain ⟨rfl, rfl, rfl⟩ := hcs
      exact ⟨zs, .inr ⟨_, rfl, hl, hm, by simpa using hz, hcell, hwz⟩⟩
  obtain ⟨a1, rfl, rfl, rfl, w1⟩ := open_int Tryd.underlying5 (hval 1 5 v1 rfl rfl) h1
  clear hA0 hval0
  refine (walk W a0 len0 cap0 z0 w0 a1 w1 (tab_of_laid hL)).mono fun e W' ⟨he, bel⟩ => ?_
  subst he
  exact ⟨_, rfl, _, _, _, [], _, [], hW', trodAll_mk1 (shut_bool Tryd.underlying4 _), (trodAll_cons_mk (Below.trod laidOut (by kernel_rfl) (of_decide_eq_true (by kernel_rfl)) k0 bel lt0) (trodAll_cons_mk (shut_int Tryd.underlying5 w1) trodAll_mk0)), rfl, bel.frame _, fun h => by cases h⟩
theorem over : Rows.quantWholeRow.holds Tryd.pinned (OpenSpec.ofChange Rows.quantWholeSpec) :=
  OpenClaim.holds_of_wide 5 Tryd.f5 rfl rfl rfl rfl rfl rfl rfl ⟨rfl, rfl, rfl, rfl, rfl⟩ rfl rfl rfl rfl rfl (by kernel_rfl) Tryd.func5 (by kernel_rfl)
    (of_decide_eq_true (by kernel_rfl)) (by unfold Func.isWrapper; first | (rw [if_pos (by decide +kernel)]; kernel_rfl) | (rw [if_neg (by decide +kernel)]; exact ⟨rfl, rfl⟩))
    (fun os started H enc _ => lifted os started H enc)
/-- The statement: the tied card. -/
theorem proved : Rows.QuantWholeCardSaid :=
  Claim7.holds_tied_plain_at .later [] [.data] true Rows.quantWholeCard.stood.harness Rows.quantWholeCard.stood.looks
    over (fun _ h => by cases h) (by kernel_rfl) (fun _ h => by cases h) quantWhole_row_tie rfl ⟨rfl, rfl⟩ (by kernel_rfl) rfl
    (fun f fn hf hfn => by
      obtain rfl : f = 5 := Option.some.inj ((show Tryd.prog.funcNamed Rows.quantWholeRow.func = some 5 by kernel_rfl).symm.trans hf) |>.symm
      obtain rfl : fn = Tryd.f5 := (Option.some.inj (Tryd.func5.symm.trans hfn)).symm
      exact ⟨by kernel_rfl, fun j t ht => by
        rw [Tryd.params5] at ht
        have hall : ∀ t ∈ #[22, 5], Tryd.prog.wantsStandIn t = false := by decide +kernel
        exact hall t (Array.mem_of_getElem? ht)⟩)
    (by kernel_rfl)
#print axioms proved
end Go.Proofs.YtopniihomjakoaaDoor.quantWhole
