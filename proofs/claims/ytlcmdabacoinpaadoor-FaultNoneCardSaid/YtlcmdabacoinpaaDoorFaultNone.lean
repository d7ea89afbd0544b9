/- Of a nil fault Error tells an empty text and Unwrap nil; a fault by itself tells the text, the error, the number and the place that the document says. Conditions: none: every two int64; the library's tables and its handle of the type error hold what the program's text lays into them, and the card ties that to the text. -/
import Derived.Test.YtlcmdabacoinpaaDoorFaultText
import Derived.Test.YtlcmdabacoinpaaDoorFaultAwake
import Derived.Test.YtlcmdabacoinpaaDoorTie
import Derived.Test.YtlcmdabacoinpaaDoorCards
import Derived.SevenTiedAt
import Derived.Stop.IfaceNil
namespace Go.Proofs.YtlcmdabacoinpaaDoor.faultNone
open Go.ChangeShapes Go.WideShapes Go.ChangeAt Go.RowKit Ft
theorem error_nil (w : World) : Calls Tryd.prog 15 #[.pointer none] w fun x w' => x = .returned (.string ⟨#[]⟩) ∧ w = w' := by
  go_enter Tryd.func15, Tryd.ntmps15
  go_wp2
  go_ret
  exact ⟨rfl, rfl⟩
theorem unwrap_nil (w : World) : Calls Tryd.prog 16 #[.pointer none] w fun x w' => x = .returned .nilIface ∧ w = w' := by
  go_enter Tryd.func16, Tryd.ntmps16
  go_wp2
  go_ret
  exact ⟨rfl, rfl⟩
theorem unwrap_any (F : Nat) (e : Int) (w : World) (h : w.cell? ⟨F, 0, none⟩ = some (.int .i64 e)) : Calls Tryd.prog 16 #[.pointer (some ⟨F, 0, none⟩)] w fun x w' => x = .returned (.iface 27 (.int .i64 e)) ∧ w = w' := by
  have hlt := World.block_lt_of_cell? w _ h
  go_enter Tryd.func16, Tryd.ntmps16
  go_wp2
  go_ret
  exact ⟨rfl, rfl⟩
set_option maxHeartbeats 1000000 in
/-- The document's text of a fault within no parts. -/
theorem refText_nil (e k : Int) (w : World) (he0 : -9223372036854775808 ≤ e) (he1 : e ≤ 9223372036854775807) (hk0 : -9223372036854775808 ≤ k) (hk1 : k ≤ 9223372036854775807) :
    Calls Tryd.prog 12 #[.int .i64 e, .int .i64 k, .slice none 0 0] w fun x w' => x = .returned (.string ⟨(faultT e k).toArray⟩) ∧ Below w.heap.size w w' := by
  have s1 := itoa_short e he0 he1
  have s2 := itoa_short k hk0 hk1
  have HC1 := Lib.hid (R6.refPrint_any e he0 he1)
  have HC2 := Lib.hid (R6.refPrint_any k hk0 hk1)
  obtain ⟨A, hA⟩ : ∃ A : ByteArray, A = ⟨(Lib.itoa e).toArray⟩ := ⟨_, rfl⟩
  obtain ⟨B, hB⟩ : ∃ B : ByteArray, B = ⟨(Lib.itoa k).toArray⟩ := ⟨_, rfl⟩
  have HX := Lib.hid (text_cat e k A B hA hB)
  rw [← hA] at s1 HC1
  rw [← hB] at s2 HC2
  have d1 : ¬9223372036854775807 < 6 + A.size := by omega
  have d2 : ¬9223372036854775807 < 6 + A.size + 4 := by omega
  have d3 : ¬9223372036854775807 < 6 + A.size + 4 + B.size := by omega
  clear hA hB he0 he1 hk0 hk1
  go_enter Tryd.func12, Tryd.ntmps12
  go_wp2_with fail
  refine (HC1.out w).mono ?_
  rintro x w1 ⟨rfl, hb⟩
  have HB1 := Lib.hid hb
  clear hb
  go_wp2_with fail
  refine (HC2.out w1).mono ?_
  rintro x w2 ⟨rfl, hb⟩
  have HB2 := Lib.hid (HB1.out.trans (hb.mono HB1.out.size))
  clear hb
  go_wp2
  refine wp_loop_rounds 1 ?_
  rw [rounds_succ]
  go_wp2
  go_ret
  exact ⟨congrArg (fun b => Ending.returned (.string b)) HX.out, HB2.out⟩
theorem eq_text (A : ByteArray) (w : World) : (binOp BinOp.eql 9 (.string A) (.string A)).run Tryd.prog w = .ok (.bool true) w := by
  simp [go_sem]
set_option maxHeartbeats 1000000 in
theorem walk_ints (e k : Int) (w : World) (he0 : -9223372036854775808 ≤ e) (he1 : e ≤ 9223372036854775807) (hk0 : -9223372036854775808 ≤ k) (hk1 : k ≤ 9223372036854775807) (hg : EtAt w) (hT : Ten w) :
    Calls Tryd.prog 5 #[.int .i64 e, .int .i64 k] w fun x w' => x = .returned (.bool true) ∧ Below w.heap.size w w' := by
  have b1 := (Below.refl w.heap.size w).alloc (Nat.le_refl _) (.cells #[.int .i64 e, .int .i64 k] 39)
  have HE1 := Lib.hid (errAt_made e k w)
  have HF1 : Hid (IsFault (w.alloc (.cells #[.int .i64 e, .int .i64 k] 39)).heap.size (w.alloc (.cells #[.int .i64 e, .int .i64 k] 39)) e k w.heap.size) := Lib.hid ⟨by simp, by simp, by simp⟩
  have HB1 := Lib.hid b1
  have HG1 := Lib.hid (hg.on b1)
  have HT1 := Lib.hid (hT.on b1)
  have HO := Lib.hid (show (-9223372036854775808 ≤ e ∧ e ≤ 9223372036854775807) ∧ -9223372036854775808 ≤ k ∧ k ≤ 9223372036854775807 from ⟨⟨he0, he1⟩, hk0, hk1⟩)
  have qe : ∀ w, (binOp .eql 25 (.iface 27 (.int .i64 e)) (.iface 27 (.int .i64 e))).run Tryd.prog w = .ok (.bool true) w := fun w => by rw [eqErrno]; congr 2; unfold eqB; exact beq_self_eq_true _
  have qt := eq_text
  clear hg hT b1 he0 he1 hk0 hk1
  go_enter Tryd.func5, Tryd.ntmps5
  go_wp2_with fail
  refine (of_any HE1.out (Nat.le_refl _) HG1.out).mono ?_
  rintro x w1 ⟨rfl, hb⟩
  generalize w.alloc (.cells #[.int .i64 e, .int .i64 k] 39) = w0 at *
  have HF2 : Hid (IsFault w1.heap.size w1 e k w.heap.size) := Lib.hid ⟨Nat.lt_of_lt_of_le HF1.out.1 hb.size, (hb.cell (by exact HF1.out.1)).trans HF1.out.2.1, (hb.cell (by exact HF1.out.1)).trans HF1.out.2.2⟩
  have HG2 := Lib.hid (HG1.out.on hb)
  have HT2 := Lib.hid (HT1.out.on hb)
  have HB2 := Lib.hid (HB1.out.trans (hb.mono HB1.out.size))
  clear hb HE1 HF1 HG1 HT1 HB1
  generalize hW : w.heap.size = W0 at *
  have HW := Lib.hid hW
  clear hW
  go_wp2_with fail
  refine (error_nil _).mono ?_
  rintro x w2 ⟨rfl, rfl⟩
  go_wp2_with fail
  refine (unwrap_nil _).mono ?_
  rintro x w2 ⟨rfl, rfl⟩
  go_wp2_with fail
  refine (error_any W0 e k w1 HO.out.1.1 HO.out.1.2 HO.out.2.1 HO.out.2.2 HF2.out HT2.out).mono ?_
  rintro x w2 ⟨rfl, hb⟩
  have HF3 : Hid (IsFault w2.heap.size w2 e k W0) := Lib.hid ⟨Nat.lt_of_lt_of_le HF2.out.1 hb.size, (hb.cell (by exact HF2.out.1)).trans HF2.out.2.1, (hb.cell (by exact HF2.out.1)).trans HF2.out.2.2⟩
  have HG3 := Lib.hid (HG2.out.on hb)
  have HB3 := Lib.hid (HB2.out.trans (hb.mono (by rw [← HW.out]; exact HB2.out.size)))
  clear hb HF2 HG2 HT2 HB2
  go_wp2_with fail
  refine (refText_nil e k w2 HO.out.1.1 HO.out.1.2 HO.out.2.1 HO.out.2.2).mono ?_
  rintro x w3 ⟨rfl, hb⟩
  have hc := (hb.cell (p := ⟨W0, 0, none⟩) (by exact HF3.out.1)).trans HF3.out.2.1
  have HU := Lib.hid (unwrap_any W0 e w3 hc)
  have HG4 := Lib.hid (HG3.out.on hb)
  have HB4 := Lib.hid (HB3.out.trans (hb.mono (by rw [← HW.out]; exact HB3.out.size)))
  clear hb HF3 HG3 HB3 hc
  go_wp2_with fail
  refine HU.out.mono ?_
  rintro x w4 ⟨rfl, rfl⟩
  go_wp2_with fail
  refine (awake_any w3 HG4.out).mono ?_
  rintro x w4 ⟨rfl, hb⟩
  have HB5 := Lib.hid (HB4.out.trans (hb.mono (by rw [← HW.out]; exact HB4.out.size)))
  clear hb
  go_wp2
  go_ret
  exact ⟨rfl, by rw [HW.out]; exact HB5.out⟩
theorem walk (w : World) (a0 : Int) (w0 : (Lit.int .i64 a0).wf = true) (a1 : Int) (w1 : (Lit.int .i64 a1).wf = true) (h : EtAt w ∧ Ten w) :
    Calls Tryd.prog 5 #[.int .i64 a0, .int .i64 a1] w fun x w' => x = .returned (.bool true) ∧ Below w.heap.size w w' := by
  have h0 := bounds_i64 w0
  have h1 := bounds_i64 w1
  exact walk_ints a0 a1 w h0.1 h0.2 h1.1 h1.2 h.1 h.2
set_option maxRecDepth 100000 in
theorem lifted (os : Os) (started : os.Started) (H : Type) (enc : TypeId × Value → H) :
    ReturnsInHanded {} Tryd.checked os 5 .any (fun w args => (Rows.faultNoneSpec.pre enc Tryd.prog Tryd.f5 [] false w args ∧ laidMetH Tryd.prog Rows.faultNoneRow.laid w) ∧ sizedMet enc Tryd.prog Tryd.f5 (OpenSpec.ofChange Rows.faultNoneSpec) false w args)
      (Rows.faultNoneSpec.post enc Tryd.prog Tryd.f5 false true false false) := by
  refine returnsInHanded_of_change_and (C := Tryd.checked) (X := fun w _ => laidMetH Tryd.prog Rows.faultNoneRow.laid w) (fun _ _ _ hh h => h.of_heap hh) own started (by kernel_rfl) Tryd.func5
    (ChangeSpec.witness_at (enc := enc) (C := Tryd.checked) (os := os) (X := fun w _ => laidMetH Tryd.prog Rows.faultNoneRow.laid w) false (laidWorldN Tryd.prog os) #[.int .i64 0, .int .i64 0] 8 rfl (by kernel_rfl) (by kernel_rfl) (by kernel_rfl) (by kernel_rfl) (by kernel_rfl) (laid_metN os _)) ?_
  intro W base args ds gs before hval0 hW _ _ hL _
  have hval : ∀ (j : Nat) t v, Tryd.f5.params[j]? = some t → args[j]? = some v → Value.okWide Tryd.prog W .any base t v := hval0
  have hW' := hW
  obtain ⟨p, q, hA0, hV, rfl, hfz, hnd⟩ := hW
  have hA : DataW.TrodAll enc Tryd.prog W 0 (fun _ => true) true Tryd.f5.params.toList args.toList ds p := hA0
  rw [Tryd.params5] at hA hval
  obtain ⟨v0, vs0, d0, ds0, p0, q0, hargs, rfl, rfl, h0, r0⟩ := trodAll_cons hA
  obtain ⟨v1, vs1, d1, ds1, p1, q1, rfl, rfl, rfl, h1, r1⟩ := trodAll_cons r0
  obtain ⟨rfl, rfl, rfl⟩ := trodAll_nil r1
  obtain rfl : args = #[v0, v1] := by cases args; simp_all
  obtain ⟨rfl, rfl⟩ := trodVars_none hV
  obtain ⟨a0, rfl, rfl, rfl, w0⟩ := open_int Tryd.underlying3 (hval 0 3 v0 rfl rfl) h0
  obtain ⟨a1, rfl, rfl, rfl, w1⟩ := open_int Tryd.underlying3 (hval 1 3 v1 rfl rfl) h1
  clear hA0 hval0
  simp only [List.append_nil] at hW'
  refine (walk W a0 w0 a1 w1 (laid_none hL)).mono fun e W' ⟨he, bel⟩ => ?_
  subst he
  exact ⟨_, rfl, _, _, _, [], [], [], hW', trodAll_mk1 (shut_bool Tryd.underlying4 _), (trodAll_cons_mk (shut_int Tryd.underlying3 w0) (trodAll_cons_mk (shut_int Tryd.underlying3 w1) trodAll_mk0)), rfl, bel.frame _, fun h => by cases h⟩
theorem over : Rows.faultNoneRow.holds Tryd.pinned (OpenSpec.ofChange Rows.faultNoneSpec) :=
  OpenClaim.holds_of_wide 5 Tryd.f5 rfl rfl rfl rfl rfl rfl rfl ⟨rfl, rfl, rfl, rfl, rfl⟩ rfl rfl rfl rfl rfl (by kernel_rfl) Tryd.func5 (by kernel_rfl)
    (of_decide_eq_true (by kernel_rfl)) (by unfold Func.isWrapper; first | (rw [if_pos (by decide +kernel)]; kernel_rfl) | (rw [if_neg (by decide +kernel)]; exact ⟨rfl, rfl⟩))
    (fun os started H enc _ => lifted os started H enc)
/-- The statement: the tied card. -/
theorem proved : Rows.FaultNoneCardSaid :=
  Claim7.holds_tied_plain_at .later [] [.data, .data, .data, .handle] true Rows.faultNoneCard.stood.harness Rows.faultNoneCard.stood.looks
    over (fun _ h => by cases h) (by kernel_rfl) (fun _ h => by cases h) faultNone_row_tie rfl ⟨rfl, rfl⟩ (by kernel_rfl) rfl
    (fun f fn hf hfn => by
      obtain rfl : f = 5 := Option.some.inj ((show Tryd.prog.funcNamed Rows.faultNoneRow.func = some 5 by kernel_rfl).symm.trans hf) |>.symm
      obtain rfl : fn = Tryd.f5 := (Option.some.inj (Tryd.func5.symm.trans hfn)).symm
      exact ⟨by kernel_rfl, fun j t ht => by
        rw [Tryd.params5] at ht
        have hall : ∀ t ∈ #[3, 3], Tryd.prog.wantsStandIn t = false := by decide +kernel
        exact hall t (Array.mem_of_getElem? ht)⟩)
    (by kernel_rfl)
#print axioms proved
end Go.Proofs.YtlcmdabacoinpaaDoor.faultNone
