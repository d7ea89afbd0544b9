/- Step, Scale and Fits of quant answer of any floats, and any step, what the document says: the greatest step, the numbers of steps, or why and where there are none. Conditions: none: every slice of words (of more than a hundred the law asks only that the program scales floats at all), every step; the library's table of de Bruijn holds what the program's text lays into it, and the card ties that to the text. -/
import Derived.Test.YtopniihomjakoaaDoorFbitLaid
import Derived.Test.YtopniihomjakoaaDoorQuantAwake
import Derived.Test.YtopniihomjakoaaDoorTie
import Derived.Test.YtopniihomjakoaaDoorCards
import Derived.SevenTiedAt
import Derived.Carry
namespace Go.Proofs.YtopniihomjakoaaDoor.quantSteps
open Go.ChangeShapes Go.WideShapes Go.ChangeAt Go.RowKit FbitPure QuantPure
theorem laidOut : laidOutB Tryd.prog = true := by kernel_rfl
theorem eq_steps (a b c : Int) (w : World) : (binOp BinOp.eql 36 (.agg #[.int .i64 a, .int .i64 b, .int .i64 c]) (.agg #[.int .i64 a, .int .i64 b, .int .i64 c])).run Tryd.prog w = .ok (.bool true) w := by
  simp [go_sem]
set_option maxHeartbeats 1000000 in
theorem walk_list (a : Option Addr) (cap : Nat) (l : List Nat) (k : Int) (w : World) (hr : WideL l) (hl : ReadsL encU w.heap.size w a l) (hm : l.length ≤ maxLen) (hk1 : -9223372036854775808 ≤ k) (hk2 : k ≤ 9223372036854775807) (hT : TabAt 1 Lib.deBruijn64tab w) :
    Calls Tryd.prog 3 #[.slice a l.length cap, .int .i64 k] w fun e w' => e = .returned (.bool true) ∧ Below w.heap.size w w' := by
  have HT := Lib.hid hT
  have HL := Lib.hid hl
  have HR := Lib.hid hr
  have HM := Lib.hid hm
  clear hT hl hr hm
  by_cases h100 : 100 < l.length
  · have hm : l.length ≤ 9223372036854775807 := by have := HM.out; unfold maxLen at this; omega
    go_enter Tryd.func3, Tryd.ntmps3
    go_wp2_with fail
    refine (qawake_any _ HT.out).mono ?_
    rintro e w1 ⟨rfl, hb1⟩
    have HB := Lib.hid hb1
    clear hb1
    go_wp2
    go_ret
    exact ⟨rfl, HB.out⟩
  have hlen : l.length ≤ 100 := by omega
  have hq := eq_steps
  go_enter Tryd.func3, Tryd.ntmps3
  go_wp2_with fail
  refine (floats_any a cap l w HL.out (by omega)).mono ?_
  rintro e w1 ⟨⟨p, c, rfl, hrd⟩, hb1⟩
  have HF1 := Lib.hid hrd
  have HT1 := Lib.hid (tab_on HT.out (by decide) hb1)
  have HL1 := Lib.hid (HL.out.over hb1 (Nat.le_refl _))
  have HB1 := Lib.hid hb1
  clear hb1 hrd
  go_wp2_with fail
  refine (step_any p c l w1 HR.out HF1.out (by omega) HT1.out).mono ?_
  rintro e w2 ⟨rfl, hb2⟩
  have HF2 := Lib.hid (HF1.out.over hb2 (Nat.le_refl _))
  have HT2 := Lib.hid (tab_on HT1.out (by decide) hb2)
  have HL2 := Lib.hid (HL1.out.over hb2 (Nat.le_refl _))
  have HB2 := Lib.hid (HB1.out.trans (hb2.mono HB1.out.size))
  clear hb2
  go_wp2_with fail
  refine (scale_any p c l k w2 HR.out HF2.out (by omega) hk1 hk2 HT2.out).mono ?_
  rintro e w3 ⟨⟨q, d, rfl, hrd⟩, hb3⟩
  have HN3 := Lib.hid hrd
  have HF3 := Lib.hid (HF2.out.over hb3 (Nat.le_refl _))
  have HT3 := Lib.hid (tab_on HT2.out (by decide) hb3)
  have HL3 := Lib.hid (HL2.out.over hb3 (Nat.le_refl _))
  have HB3 := Lib.hid (HB2.out.trans (hb3.mono HB2.out.size))
  clear hb3 hrd
  go_wp2_with fail
  refine (refScale_any a cap l k w3 HR.out HL3.out (by omega) hk1 hk2).mono ?_
  rintro e w4 ⟨⟨q2, d2, rfl, hrd⟩, hb4⟩
  have b5 := (Below.refl w4.heap.size w4).alloc (Nat.le_refl _) (.cells #[.slice q2 (cnts k l).length d2, .int .i64 (errAt (cntE k) l), .int .i64 (plcAt (cntE k) l)] 33)
  have hbb := hb4.trans (b5.mono hb4.size)
  have HN4 := Lib.hid (HN3.out.over hbb (Nat.le_refl _))
  have HQ4 := Lib.hid (hrd.over b5 (Nat.le_refl _))
  have HF4 := Lib.hid (HF3.out.over hbb (Nat.le_refl _))
  have HT4 := Lib.hid (tab_on HT3.out (by decide) hbb)
  have HL4 := Lib.hid (HL3.out.over hbb (Nat.le_refl _))
  have HB4 := Lib.hid (HB3.out.trans (hbb.mono HB3.out.size))
  have HW4 := Lib.hid (ThreeAt.new w4 (.slice q2 (cnts k l).length d2) (.int .i64 (errAt (cntE k) l)) (.int .i64 (plcAt (cntE k) l)) 33)
  clear hb4 hrd b5 hbb
  go_wp2_with fail
  generalize w4.alloc (.cells #[.slice q2 (cnts k l).length d2, .int .i64 (errAt (cntE k) l), .int .i64 (plcAt (cntE k) l)] 33) = w5 at *
  generalize w4.heap.size = Z at *
  refine (refStep_any a cap l w5 HR.out HL4.out (by omega)).mono ?_
  rintro e w6 ⟨rfl, hb6⟩
  have HN6 := Lib.hid (HN4.out.over hb6 (Nat.le_refl _))
  have HQ6 := Lib.hid (HQ4.out.over hb6 (Nat.le_refl _))
  have HF6 := Lib.hid (HF4.out.over hb6 (Nat.le_refl _))
  have HT6 := Lib.hid (tab_on HT4.out (by decide) hb6)
  have HW6 := Lib.hid (HW4.out.on hb6 HW4.out.lt)
  have HB6 := Lib.hid (HB4.out.trans (hb6.mono HB4.out.size))
  obtain ⟨c0, c1, c2, -, -, -⟩ := HW6.out
  have hlt6 := HW6.out.lt
  clear hb6
  go_wp2_with fail
  have hcl := cnts_len k l
  refine (sameI_any q q2 d d2 (cnts k l) w6 HN6.out HQ6.out (by omega)).mono ?_
  rintro e w7 ⟨rfl, hb7⟩
  have HF7 := Lib.hid (HF6.out.over hb7 (Nat.le_refl _))
  have HT7 := Lib.hid (tab_on HT6.out (by decide) hb7)
  have HW7 := Lib.hid (HW6.out.on hb7 HW6.out.lt)
  have HB7 := Lib.hid (HB6.out.trans (hb7.mono HB6.out.size))
  clear c0 c1 c2
  obtain ⟨c0, c1, c2, -, -, -⟩ := HW7.out
  have hlt7 := HW7.out.lt
  clear hb7 hlt6
  go_wp2_with fail
  refine (fits_any p c l k w7 HR.out HF7.out (by omega) hk1 hk2 HT7.out).mono ?_
  rintro e w8 ⟨rfl, hb8⟩
  have HT8 := Lib.hid (tab_on HT7.out (by decide) hb8)
  have HB8 := Lib.hid (HB7.out.trans (hb8.mono HB7.out.size))
  clear hb8
  go_wp2_with fail
  refine (qawake_any w8 HT8.out).mono ?_
  rintro e w9 ⟨rfl, hb9⟩
  have HB9 := Lib.hid (HB8.out.trans (hb9.mono HB8.out.size))
  clear hb9
  go_wp2
  go_ret
  exact ⟨rfl, HB9.out⟩
theorem walk (w : World) (a0 : Option Addr) (len0 cap0 : Nat) (z0 : List Int) (w0 : IsRow .u64 w a0 len0 cap0 z0) (k : Int) (w1 : (Lit.int .i64 k).wf = true) (hT : TabAt 1 Lib.deBruijn64tab w) :
    Calls Tryd.prog 3 #[.slice a0 len0 cap0, .int .i64 k] w fun e w' => e = .returned (.bool true) ∧ Below w.heap.size w w' := by
  obtain ⟨l, rfl, h1, h2, h3⟩ := row_readsU w0
  have hb := bounds_i64 w1
  exact walk_list a0 cap0 l k w h1 h2 h3 hb.1 hb.2 hT
set_option maxRecDepth 100000 in
theorem lifted (os : Os) (started : os.Started) (H : Type) (enc : TypeId × Value → H) :
    ReturnsInHanded {} Tryd.checked os 3 .any (fun w args => (Rows.quantStepsSpec.pre enc Tryd.prog Tryd.f3 [] false w args ∧ laidMetH Tryd.prog Rows.quantStepsRow.laid w) ∧ sizedMet enc Tryd.prog Tryd.f3 (OpenSpec.ofChange Rows.quantStepsSpec) false w args)
      (Rows.quantStepsSpec.post enc Tryd.prog Tryd.f3 false true false false) := by
  refine returnsInHanded_of_change_and (C := Tryd.checked) (X := fun w _ => laidMetH Tryd.prog Rows.quantStepsRow.laid w) (fun _ _ _ hh h => h.of_heap hh) own started (by kernel_rfl) Tryd.func3
    (ChangeSpec.witness_at (enc := enc) (C := Tryd.checked) (os := os) (X := fun w _ => laidMetH Tryd.prog Rows.quantStepsRow.laid w) false (laidWorld Tryd.prog os) #[.slice none 0 0, .int .i64 0] 8 rfl (by kernel_rfl) (by kernel_rfl) (by kernel_rfl) (by kernel_rfl) (by kernel_rfl) (laid_met os _)) ?_
  intro W base args ds gs before hval0 hW _ _ hL _
  have hval : ∀ (j : Nat) t v, Tryd.f3.params[j]? = some t → args[j]? = some v → Value.okWide Tryd.prog W .any base t v := hval0
  have hW' := hW
  obtain ⟨p, q, hA0, hV, rfl, hfz, hnd⟩ := hW
  have hA : DataW.TrodAll enc Tryd.prog W 0 (fun _ => true) true Tryd.f3.params.toList args.toList ds p := hA0
  rw [Tryd.params3] at hA hval
  obtain ⟨v0, vs0, d0, ds0, p0, q0, hargs, rfl, rfl, h0, r0⟩ := trodAll_cons hA
  obtain ⟨v1, vs1, d1, ds1, p1, q1, rfl, rfl, rfl, h1, r1⟩ := trodAll_cons r0
  obtain ⟨rfl, rfl, rfl⟩ := trodAll_nil r1
  obtain rfl : args = #[v0, v1] := by cases args; simp_all
  obtain ⟨rfl, rfl⟩ := trodVars_none hV
  obtain ⟨a0, len0, cap0, rfl⟩ := okWide_slice Tryd.underlying22 (hval 0 22 v0 rfl rfl)
  have k0 := h0
  have lt0 : ∀ x ∈ p0, x.block < W.heap.size := by obtain ⟨m, hm⟩ := k0; exact DataW.trod_lt m _ _ _ hm
  obtain ⟨z0, w0⟩ : ∃ zs, IsRow .u64 W a0 len0 cap0 zs := by
    obtain ⟨fuel, hf⟩ := h0
    rcases open_ints Tryd.underlying22 Tryd.underlying46 (by kernel_rfl) hf with ⟨hcs, _⟩ | ⟨x, l, c, zs, hcs, _, hl, hm, hz, _, hcell, hwz⟩
    · simp [Value.cells] at hcs
      obtain ⟨rfl, rfl, rfl⟩ := hcs
      exact ⟨[], .inl ⟨rfl, rfl, rfl, rfl⟩⟩
    · simp [Value.cells] at hcs
      obtain ⟨rfl, rfl, rfl⟩ := hcs
      exact ⟨zs, .inr ⟨_, rfl, hl, hm, by simpa using hz, hcell, hwz⟩⟩
  obtain ⟨a1, rfl, rfl, rfl, w1⟩ := open_int Tryd.underlying3 (hval 1 3 v1 rfl rfl) h1
  clear hA0 hval0
  refine (walk W a0 len0 cap0 z0 w0 a1 w1 (tab_of_laid hL)).mono fun e W' ⟨he, bel⟩ => ?_
  subst he
  exact ⟨_, rfl, _, _, _, [], _, [], hW', trodAll_mk1 (shut_bool Tryd.underlying4 _), (trodAll_cons_mk (Below.trod laidOut (by kernel_rfl) (of_decide_eq_true (by kernel_rfl)) k0 bel lt0) (trodAll_cons_mk (shut_int Tryd.underlying3 w1) trodAll_mk0)), rfl, bel.frame _, fun h => by cases h⟩
theorem over : Rows.quantStepsRow.holds Tryd.pinned (OpenSpec.ofChange Rows.quantStepsSpec) :=
  OpenClaim.holds_of_wide 3 Tryd.f3 rfl rfl rfl rfl rfl rfl rfl ⟨rfl, rfl, rfl, rfl, rfl⟩ rfl rfl rfl rfl rfl (by kernel_rfl) Tryd.func3 (by kernel_rfl)
    (of_decide_eq_true (by kernel_rfl)) (by unfold Func.isWrapper; first | (rw [if_pos (by decide +kernel)]; kernel_rfl) | (rw [if_neg (by decide +kernel)]; exact ⟨rfl, rfl⟩))
    (fun os started H enc _ => lifted os started H enc)
/-- The statement: the tied card. -/
theorem proved : Rows.QuantStepsCardSaid :=
  Claim7.holds_tied_plain_at .later [] [.data] true Rows.quantStepsCard.stood.harness Rows.quantStepsCard.stood.looks
    over (fun _ h => by cases h) (by kernel_rfl) (fun _ h => by cases h) quantSteps_row_tie rfl ⟨rfl, rfl⟩ (by kernel_rfl) rfl
    (fun f fn hf hfn => by
      obtain rfl : f = 3 := Option.some.inj ((show Tryd.prog.funcNamed Rows.quantStepsRow.func = some 3 by kernel_rfl).symm.trans hf) |>.symm
      obtain rfl : fn = Tryd.f3 := (Option.some.inj (Tryd.func3.symm.trans hfn)).symm
      exact ⟨by kernel_rfl, fun j t ht => by
        rw [Tryd.params3] at ht
        have hall : ∀ t ∈ #[22, 3], Tryd.prog.wantsStandIn t = false := by decide +kernel
        exact hall t (Array.mem_of_getElem? ht)⟩)
    (by kernel_rfl)
#print axioms proved
end Go.Proofs.YtopniihomjakoaaDoor.quantSteps
