/- Back of quant answers of any numbers, and any step, what the document says: the floats that are just so many steps, or that there are none. Conditions: none: every slice of numbers (of more than a hundred the law asks only that the program scales floats at all), every step; the library's table of de Bruijn holds what the program's text lays into it, and the card ties that to the text. -/
import Derived.Test.YtopniihomjakoaaDoorFbitLaid
import Derived.Test.YtopniihomjakoaaDoorQuantAwake
import Derived.Test.YtopniihomjakoaaDoorQuantBack
import Derived.Test.YtopniihomjakoaaDoorTie
import Derived.Test.YtopniihomjakoaaDoorCards
import Derived.SevenTiedAt
import Derived.Carry
namespace Go.Proofs.YtopniihomjakoaaDoor.quantBacks
open Go.ChangeShapes Go.WideShapes Go.ChangeAt Go.RowKit FbitPure QuantPure
theorem laidOut : laidOutB Tryd.prog = true := by kernel_rfl
theorem backs_bits (K : Int) (l : List Int) (hr : RngI l) (k : Nat) (hk : k < (backs K l).length) : ((backs K l)[k] : Int) ≤ 18446744073709551615 ∧ bitsN (backs K l)[k] = (backs K l)[k] := by
  have hmem := List.getElem_mem hk
  generalize (backs K l)[k] = y at hmem
  unfold backs at hmem
  split at hmem
  · obtain ⟨n, hn, rfl⟩ := List.mem_map.1 hmem
    obtain ⟨j, hj, rfl⟩ := List.getElem_of_mem hn
    have := hr j hj
    have h := make_lt (decide (l[j] < 0)) l[j].natAbs K (by omega)
    unfold backW
    exact ⟨by omega, h.2⟩
  · simp at hmem
theorem backBits_any (y : Nat) (h1 : (y : Int) ≤ 18446744073709551615) (h2 : bitsN y = y) (w : World) :
    Calls Tryd.prog 16 #[.float .f64 y] w fun e w' => e = .returned (.int .u64 (y : Int)) ∧ w = w' :=
  (bits_any y h1 w).mono fun _ _ ⟨g1, g2⟩ => ⟨by rw [g1, h2], g2⟩
set_option maxRecDepth 100000 in
set_option maxHeartbeats 1000000 in
theorem walk_list (a : Option Addr) (cap : Nat) (l : List Int) (k : Int) (w : World) (hr : RngI l) (hl : ReadsL encI w.heap.size w a l) (hm : l.length ≤ maxLen) (hk1 : -9223372036854775808 ≤ k) (hk2 : k ≤ 9223372036854775807) (hT : TabAt 1 Lib.deBruijn64tab w) :
    Calls Tryd.prog 4 #[.slice a l.length cap, .int .i64 k] w fun e w' => e = .returned (.bool true) ∧ Below w.heap.size w w' := by
  have HT := Lib.hid hT
  have HL := Lib.hid hl
  have HR := Lib.hid hr
  have HM := Lib.hid hm
  clear hT hl hr hm
  by_cases h100 : 100 < l.length
  · have hm : l.length ≤ 9223372036854775807 := by have := HM.out; unfold maxLen at this; omega
    go_enter Tryd.func4, Tryd.ntmps4
    go_wp2_with fail
    refine (qawake_any _ HT.out).mono ?_
    rintro e w1 ⟨rfl, hb1⟩
    have HB := Lib.hid hb1
    clear hb1
    go_wp2
    go_ret
    exact ⟨rfl, HB.out⟩
  have hlen : l.length ≤ 100 := by omega
  have hbl := backs_len k l
  have HBB := Lib.hid (backs_bits k l HR.out)
  go_enter Tryd.func4, Tryd.ntmps4
  go_wp2_with fail
  refine (qback_any a cap l k w HR.out HL.out (by omega) hk1 hk2 HT.out).mono ?_
  rintro e w1 ⟨⟨p, c, rfl, hrd⟩, hb1⟩
  have HF1 := Lib.hid hrd
  have HT1 := Lib.hid (tab_on HT.out (by decide) hb1)
  have HL1 := Lib.hid (HL.out.over hb1 (Nat.le_refl _))
  have HB1 := Lib.hid hb1
  clear hb1 hrd
  go_wp2_with fail
  refine (refBack_any a cap l k w1 HR.out HL1.out (by omega) hk1 hk2).mono ?_
  rintro e w2 ⟨⟨q, d, rfl, hrd⟩, hb2⟩
  have b3 := (Below.refl w2.heap.size w2).alloc (Nat.le_refl _) (.cells #[.slice q (backs k l).length d, .bool (backOk k l)] 44)
  have hbb := hb2.trans (b3.mono hb2.size)
  have HF2 := Lib.hid (HF1.out.over hbb (Nat.le_refl _))
  have HQ2 := Lib.hid (hrd.over b3 (Nat.le_refl _))
  have HT2 := Lib.hid (tab_on HT1.out (by decide) hbb)
  have HB2 := Lib.hid (HB1.out.trans (hbb.mono HB1.out.size))
  have HW2 := Lib.hid (TwoAt.new w2 (.slice q (backs k l).length d) (.bool (backOk k l)) 44)
  clear hb2 hrd b3 hbb
  go_wp2
  generalize w2.alloc (.cells #[.slice q (backs k l).length d, .bool (backOk k l)] 44) = w3 at *
  generalize w2.heap.size = Z at *
  have HS := Lib.hid (Below.refl w3.heap.size w3)
  go_loopw [8] (fun i wr => ∃ n : Nat, i = .int .i64 n ∧ n ≤ (backs k l).length ∧ Hid (Below w3.heap.size w3 wr)) (fun i _ => (backs k l).length - (intOf i).toNat)
  case atStart => exact ⟨0, rfl, Nat.zero_le _, HS⟩
  case round =>
    obtain ⟨n, rfl, hn, HB⟩ := hrel
    obtain ⟨c0, c1, -, -⟩ := HW2.out.on HB.out HW2.out.lt
    have hlt0 := Nat.lt_of_lt_of_le HW2.out.lt HB.out.size
    by_cases hlt : n < (backs k l).length
    · obtain ⟨b0, o0, rfl, -, g0⟩ := (HF2.out.on HB.out).at hlt
      obtain ⟨b1, o1, rfl, -, g1⟩ := (HQ2.out.on HB.out).at hlt
      have hbits := HBB.out n hlt
      unfold encF at g0
      unfold encU at g1
      have HBT := Lib.hid (backBits_any (backs k l)[n] hbits.1 hbits.2)
      clear hbits
      generalize (backs k l)[n] = x at *
      go_wp2
      go_quiet ((go_at_call 16; exact Calls.quiet_of_same (flip_same (HBT.out _))))
      go_wp2
      go_roundw
      case rel => exact ⟨n + 1, by go_num, hlt, below_drewN HB.out _⟩
      case measure => (simp [intOf] <;> omega)
    · have hke : n = (backs k l).length := by omega
      subst hke
      have HT3 := Lib.hid (tab_on HT2.out (by decide) HB.out)
      have HB3 := Lib.hid (HB2.out.trans (HB.out.mono HB2.out.size))
      go_wp2_with fail
      refine (qawake_any _ HT3.out).mono ?_
      rintro e w4 ⟨rfl, hb4⟩
      have HB4 := Lib.hid (HB3.out.trans (hb4.mono HB3.out.size))
      clear hb4
      go_wp2
      go_ret
      exact ⟨rfl, HB4.out⟩
theorem row_rng {w : World} {a : Option Addr} {len cap : Nat} {zs : List Int} (h : IsRow .i64 w a len cap zs) :
    ∃ l : List Int, l.length = len ∧ RngI l ∧ ReadsL encI w.heap.size w a l ∧ len ≤ maxLen := by
  obtain ⟨l, h1, h2, h3, h4, -⟩ := row_reads h
  exact ⟨l, h1, fun i hi => bounds_i64 (h2 _ (List.getElem_mem hi)), h3, h4⟩
theorem walk (w : World) (a0 : Option Addr) (len0 cap0 : Nat) (z0 : List Int) (w0 : IsRow .i64 w a0 len0 cap0 z0) (k : Int) (w1 : (Lit.int .i64 k).wf = true) (hT : TabAt 1 Lib.deBruijn64tab w) :
    Calls Tryd.prog 4 #[.slice a0 len0 cap0, .int .i64 k] w fun e w' => e = .returned (.bool true) ∧ Below w.heap.size w w' := by
  obtain ⟨l, rfl, h1, h2, h3⟩ := row_rng w0
  have hb := bounds_i64 w1
  exact walk_list a0 cap0 l k w h1 h2 h3 hb.1 hb.2 hT
set_option maxRecDepth 100000 in
theorem lifted (os : Os) (started : os.Started) (H : Type) (enc : TypeId × Value → H) :
    ReturnsInHanded {} Tryd.checked os 4 .any (fun w args => (Rows.quantBacksSpec.pre enc Tryd.prog Tryd.f4 [] false w args ∧ laidMetH Tryd.prog Rows.quantStepsRow.laid w) ∧ sizedMet enc Tryd.prog Tryd.f4 (OpenSpec.ofChange Rows.quantBacksSpec) false w args)
      (Rows.quantBacksSpec.post enc Tryd.prog Tryd.f4 false true false false) := by
  refine returnsInHanded_of_change_and (C := Tryd.checked) (X := fun w _ => laidMetH Tryd.prog Rows.quantStepsRow.laid w) (fun _ _ _ hh h => h.of_heap hh) own started (by kernel_rfl) Tryd.func4
    (ChangeSpec.witness_at (enc := enc) (C := Tryd.checked) (os := os) (X := fun w _ => laidMetH Tryd.prog Rows.quantStepsRow.laid w) false (laidWorld Tryd.prog os) #[.slice none 0 0, .int .i64 0] 8 rfl (by kernel_rfl) (by kernel_rfl) (by kernel_rfl) (by kernel_rfl) (by kernel_rfl) (laid_met os _)) ?_
  intro W base args ds gs before hval0 hW _ _ hL _
  have hval : ∀ (j : Nat) t v, Tryd.f4.params[j]? = some t → args[j]? = some v → Value.okWide Tryd.prog W .any base t v := hval0
  have hW' := hW
  obtain ⟨p, q, hA0, hV, rfl, hfz, hnd⟩ := hW
  have hA : DataW.TrodAll enc Tryd.prog W 0 (fun _ => true) true Tryd.f4.params.toList args.toList ds p := hA0
  rw [Tryd.params4] at hA hval
  obtain ⟨v0, vs0, d0, ds0, p0, q0, hargs, rfl, rfl, h0, r0⟩ := trodAll_cons hA
  obtain ⟨v1, vs1, d1, ds1, p1, q1, rfl, rfl, rfl, h1, r1⟩ := trodAll_cons r0
  obtain ⟨rfl, rfl, rfl⟩ := trodAll_nil r1
  obtain rfl : args = #[v0, v1] := by cases args; simp_all
  obtain ⟨rfl, rfl⟩ := trodVars_none hV
  obtain ⟨a0, len0, cap0, rfl⟩ := okWide_slice Tryd.underlying29 (hval 0 29 v0 rfl rfl)
  have k0 := h0
  have lt0 : ∀ x ∈ p0, x.block < W.heap.size := by obtain ⟨m, hm⟩ := k0; exact DataW.trod_lt m _ _ _ hm
  obtain ⟨z0, w0⟩ : ∃ zs, IsRow .i64 W a0 len0 cap0 zs := by
    obtain ⟨fuel, hf⟩ := h0
    rcases open_ints Tryd.underlying29 Tryd.underlying2 (by kernel_rfl) hf with ⟨hcs, _⟩ | ⟨x, l, c, zs, hcs, _, hl, hm, hz, _, hcell, hwz⟩
    · simp [Value.cells] at hcs
      obtain ⟨rfl, rfl, rfl⟩ := hcs
      exact ⟨[], .inl ⟨rfl, rfl, rfl, rfl⟩⟩
    · simp [Value.cells] at hcs
      obtain ⟨rfl, rfl, rfl⟩ := hcs
      exact ⟨zs, .inr ⟨_, rfl, hl, hm, by simpa using hz, hcell, hwz⟩⟩
  obtain ⟨a1, rfl, rfl, rfl, w1⟩ := open_int Tryd.underlying3 (hval 1 3 v1 rfl rfl) h1
  clear hA0 hval0
  refine (walk W a0 len0 cap0 z0 w0 a1 w1 (tab_of_laid hL)).mono fun e W' ⟨he, bel⟩ => ?_
  subst he
  exact ⟨_, rfl, _, _, _, [], _, [], hW', trodAll_mk1 (shut_bool Tryd.underlying4 _), (trodAll_cons_mk (Below.trod laidOut (by kernel_rfl) (of_decide_eq_true (by kernel_rfl)) k0 bel lt0) (trodAll_cons_mk (shut_int Tryd.underlying3 w1) trodAll_mk0)), rfl, bel.frame _, fun h => by cases h⟩
theorem over : Rows.quantBacksRow.holds Tryd.pinned (OpenSpec.ofChange Rows.quantBacksSpec) :=
  OpenClaim.holds_of_wide 4 Tryd.f4 rfl rfl rfl rfl rfl rfl rfl ⟨rfl, rfl, rfl, rfl, rfl⟩ rfl rfl rfl rfl rfl (by kernel_rfl) Tryd.func4 (by kernel_rfl)
    (of_decide_eq_true (by kernel_rfl)) (by unfold Func.isWrapper; first | (rw [if_pos (by decide +kernel)]; kernel_rfl) | (rw [if_neg (by decide +kernel)]; exact ⟨rfl, rfl⟩))
    (fun os started H enc _ => lifted os started H enc)
/-- The statement: the tied card. -/
theorem proved : Rows.QuantBacksCardSaid :=
  Claim7.holds_tied_plain_at .later [] [.data] true Rows.quantBacksCard.stood.harness Rows.quantBacksCard.stood.looks
    over (fun _ h => by cases h) (by kernel_rfl) (fun _ h => by cases h) quantBacks_row_tie rfl ⟨rfl, rfl⟩ (by kernel_rfl) rfl
    (fun f fn hf hfn => by
      obtain rfl : f = 4 := Option.some.inj ((show Tryd.prog.funcNamed Rows.quantBacksRow.func = some 4 by kernel_rfl).symm.trans hf) |>.symm
      obtain rfl : fn = Tryd.f4 := (Option.some.inj (Tryd.func4.symm.trans hfn)).symm
      exact ⟨by kernel_rfl, fun j t ht => by
        rw [Tryd.params4] at ht
        have hall : ∀ t ∈ #[29, 3], Tryd.prog.wantsStandIn t = false := by decide +kernel
        exact hall t (Array.mem_of_getElem? ht)⟩)
    (by kernel_rfl)
#print axioms proved
end Go.Proofs.YtopniihomjakoaaDoor.quantBacks
