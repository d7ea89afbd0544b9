/- Int, Weight, Whole and Float of fint answer what the document says: the number and the weight that any float is, or why it is none, and the float of any number. Conditions: none: every word of 64 bits, every int64; the library's table of de Bruijn holds what the program's text lays into it, and the card ties that to the text. -/
import Derived.Test.YtmagdmjccljkiaaDoorFbitLaid
import Derived.Test.YtmagdmjccljkiaaDoorFintRef
import Derived.Test.YtmagdmjccljkiaaDoorTie
import Derived.Test.YtmagdmjccljkiaaDoorCards
import Derived.SevenTiedAt
import Derived.Deep.RegionHeld3
namespace Go.Proofs.YtmagdmjccljkiaaDoor.fintTells
open Go.ChangeShapes Go.WideShapes Go.ChangeAt Go.RowKit FbitPure FintPure
/-- What stands while the law's last statement is worked out. -/
def Stand (A B : Nat) (b : Nat) (n : Int) (w w' : World) : Prop :=
  TwoAt A w' (.int .i64 (intN b)) (.int .i64 (intE b)) ∧ TwoAt B w' (.int .u64 (makeW (decide (n < 0)) n.natAbs 0 : Int)) (.bool (makeOk n.natAbs 0)) ∧ Below w.heap.size w w' ∧ TabAt 1 Lib.deBruijn64tab w'
theorem Stand.on {A B b : Nat} {n : Int} {w w1 w2 : World} (h : Stand A B b n w w1) (hb : Below w1.heap.size w1 w2) : Stand A B b n w w2 :=
  ⟨h.1.on hb h.1.lt, h.2.1.on hb h.2.1.lt, h.2.2.1.trans (hb.mono h.2.2.1.size), tab_on h.2.2.2 (by decide) hb⟩
theorem stand_keep {A B b : Nat} {n : Int} {w w1 w2 : World} (h : Hid (Stand A B b n w w1)) (hb : Below w1.heap.size w1 w2) :
    w2.cell? ⟨A, 0, none⟩ = some (.int .i64 (intN b)) ∧ w2.cell? ⟨A, 1, none⟩ = some (.int .i64 (intE b)) ∧ w2.cell? ⟨B, 0, none⟩ = some (.int .u64 (makeW (decide (n < 0)) n.natAbs 0 : Int)) ∧ w2.cell? ⟨B, 1, none⟩ = some (.bool (makeOk n.natAbs 0)) ∧ Hid (Stand A B b n w w2) :=
  have hs := h.out.on hb
  ⟨hs.1.1, hs.1.2.1, hs.2.1.1, hs.2.1.2.1, Lib.hid hs⟩
theorem stand_tab {A B b : Nat} {n : Int} {w w1 : World} (h : Hid (Stand A B b n w w1)) : TabAt 1 Lib.deBruijn64tab w1 := h.out.2.2.2
theorem stand_bel {A B b : Nat} {n : Int} {w w1 : World} (h : Hid (Stand A B b n w w1)) : Below w.heap.size w w1 := h.out.2.2.1
set_option maxHeartbeats 1000000 in
theorem walk0 (v : Bool) (b : Nat) (n : Int) (hb : (b : Int) ≤ 18446744073709551615) (h1 : -9223372036854775808 ≤ n) (h2 : n ≤ 9223372036854775807) (w : World) (hT : TabAt 1 Lib.deBruijn64tab w)
    (hv : (v = true ∧ (intE b == 0) = true) ∨ (v = true ∧ (intE b == 0) = false ∧ (intE b == 10) = true) ∨ (v = false ∧ (intE b == 0) = false ∧ (intE b == 10) = false)) :
    Calls Tryd.prog 3 #[.int .u64 b, .int .i64 n] w fun e w' => e = .returned (.bool true) ∧ Below w.heap.size w w' := by
  have HT := Lib.hid hT
  have HV : Hid ((wholeE b == 0) = v) := Lib.hid (by rw [whole_int]; rcases hv with ⟨h1, h2⟩ | ⟨h1, h2, h3⟩ | ⟨h1, h2, h3⟩ <;> rw [h1, h2] <;> first | rfl | (rw [h3]; rfl))
  have HML := Lib.hid (make_lt (decide (n < 0)) n.natAbs 0 (by omega))
  clear hT
  rcases hv with ⟨rfl, t0⟩ | ⟨rfl, t0, t10⟩ | ⟨rfl, t0, t10⟩
  all_goals
    go_enter Tryd.func3, Tryd.ntmps3
    go_wp2_with (first
      | (go_at_call 6; refine (of_any _ _).mono ?_; rintro e w' ⟨rfl, rfl⟩)
      | (go_at_call 7; refine (int_any _ hb _ HT.out).mono ?_; rintro e w' ⟨rfl, rfl⟩)
      | (go_at_call 8; refine (weight_any _ hb _ HT.out).mono ?_; rintro e w' ⟨rfl, rfl⟩)
      | (go_at_call 9; refine (float_any _ h1 h2 _ HT.out).mono ?_; rintro e w' ⟨rfl, rfl⟩)
      | fail)
    refine (refInt_any _ hb _).mono ?_
    rintro e w1 ⟨rfl, hb1⟩
    have hA0 := (TwoAt.new w1 (.int .i64 (intN b)) (.int .i64 (intE b)) 31)
    have hl1 := hb1.size
    have HB1 := Lib.hid (hb1.alloc hl1 (.cells #[.int .i64 (intN b), .int .i64 (intE b)] 31))
    clear hb1
    go_wp2_with fail
    refine (refFloat_any _ h1 h2 _).mono ?_
    rintro e w2 ⟨rfl, hb2⟩
    have hl2 := hb2.size
    have hA2 := hA0.on hb2 (by simp)
    have hz := hA2.lt
    have HB2 := Lib.hid (HB1.out.trans (hb2.mono HB1.out.size))
    have HS : Hid (Stand w1.heap.size w2.heap.size b n w (w2.alloc (.cells #[.int .u64 (makeW (decide (n < 0)) n.natAbs 0 : Int), .bool (makeOk n.natAbs 0)] 34))) :=
      Lib.hid ⟨hA2.on ((Below.refl _ _).alloc (Nat.le_refl _) _) hA2.lt, TwoAt.new _ _ _ _, HB2.out.alloc HB2.out.size _, tab_on (tab_on HT.out (by decide) HB2.out) (by decide) ((Below.refl _ _).alloc (Nat.le_refl _) _)⟩
    obtain ⟨c0, c1, -, -⟩ := hA2
    clear hb2 hA0
    go_wp2
    clear c0 c1
    have hs := HS.out
    obtain ⟨⟨c0, c1, -, -⟩, ⟨d0, d1, -, -⟩, -, -⟩ := hs
    generalize w2.alloc (.cells #[.int .u64 (makeW (decide (n < 0)) n.natAbs 0 : Int), .bool (makeOk n.natAbs 0)] 34) = w3 at *
    generalize w1.heap.size = A at *
    generalize w2.heap.size = B at *
    go_region_held3 (fun w' => w'.cell? ⟨A, 0, none⟩ = some (.int .i64 (intN b)) ∧ w'.cell? ⟨A, 1, none⟩ = some (.int .i64 (intE b)) ∧ w'.cell? ⟨B, 0, none⟩ = some (.int .u64 (makeW (decide (n < 0)) n.natAbs 0 : Int)) ∧ w'.cell? ⟨B, 1, none⟩ = some (.bool (makeOk n.natAbs 0)) ∧ Hid (Stand A B b n w w'))
      (first
        | exact stand_keep HS ((Below.refl _ _).drew)
        | (go_split_ands; exact stand_keep (by assumption) hb1)
        | go_keep)
      (first
        | (go_at_call 12; refine (refWeight_any _ hb _).mono ?_; rintro e w' ⟨rfl, hb1⟩)
        | (go_at_call 13; go_split_ands; refine (whole_any _ hb _ (stand_tab (by assumption))).mono ?_; rintro e w' ⟨rfl, rfl⟩; rw [HV.out])
        | (go_at_call 14; refine (bits_any _ (by have := HML.out.1; omega) _).mono ?_; rintro e w' ⟨rfl, rfl⟩; rw [HML.out.2])
        | (go_at_call 15; go_split_ands; refine (fintAwake_any _ (stand_tab (by assumption))).mono ?_; rintro e w' ⟨rfl, rfl⟩))
    go_wp2
    go_ret
    exact ⟨rfl, stand_bel (by assumption)⟩
theorem walk (a0 : Int) (w0 : (Lit.int .u64 a0).wf = true) (n : Int) (w1 : (Lit.int .i64 n).wf = true) (w : World) (hT : TabAt 1 Lib.deBruijn64tab w) :
    Calls Tryd.prog 3 #[.int .u64 a0, .int .i64 n] w fun e w' => e = .returned (.bool true) ∧ Below w.heap.size w w' := by
  obtain ⟨z1, hb⟩ := bounds_u64 w0
  obtain ⟨h1, h2⟩ := bounds_i64 w1
  obtain ⟨b, rfl⟩ := Int.eq_ofNat_of_zero_le z1
  cases t0 : (intE b == 0)
  · cases t10 : (intE b == 10)
    · exact walk0 false b n hb h1 h2 w hT (Or.inr (Or.inr ⟨rfl, t0, t10⟩))
    · exact walk0 true b n hb h1 h2 w hT (Or.inr (Or.inl ⟨rfl, t0, t10⟩))
  · exact walk0 true b n hb h1 h2 w hT (Or.inl ⟨rfl, t0⟩)
set_option maxRecDepth 100000 in
theorem lifted (os : Os) (started : os.Started) (H : Type) (enc : TypeId × Value → H) :
    ReturnsInHanded {} Tryd.checked os 3 .any (fun w args => (Rows.fintTellsSpec.pre enc Tryd.prog Tryd.f3 [] false w args ∧ laidMetH Tryd.prog Rows.fintTellsRow.laid w) ∧ sizedMet enc Tryd.prog Tryd.f3 (OpenSpec.ofChange Rows.fintTellsSpec) false w args)
      (Rows.fintTellsSpec.post enc Tryd.prog Tryd.f3 false true false false) := by
  refine returnsInHanded_of_change_and (C := Tryd.checked) (X := fun w _ => laidMetH Tryd.prog Rows.fintTellsRow.laid w) (fun _ _ _ hh h => h.of_heap hh) own started (by kernel_rfl) Tryd.func3
    (ChangeSpec.witness_at (enc := enc) (C := Tryd.checked) (os := os) (X := fun w _ => laidMetH Tryd.prog Rows.fintTellsRow.laid w) false (laidWorld Tryd.prog os) #[.int .u64 0, .int .i64 0] 8 rfl (by kernel_rfl) (by kernel_rfl) (by kernel_rfl) (by kernel_rfl) (by kernel_rfl) (laid_met os _)) ?_
  intro W base args ds gs before hval0 hW _ _ hL _
  have hval : ∀ (j : Nat) t v, Tryd.f3.params[j]? = some t → args[j]? = some v → Value.okWide Tryd.prog W .any base t v := hval0
  have hW' := hW
  obtain ⟨p, q, hA0, hV, rfl, hfz, hnd⟩ := hW
  have hA : DataW.TrodAll enc Tryd.prog W 0 (fun _ => true) true Tryd.f3.params.toList args.toList ds p := hA0
  rw [Tryd.params3] at hA hval
  obtain ⟨v0, vs0, d0, ds0, p0, q0, hargs, rfl, rfl, h0, r0⟩ := trodAll_cons hA
  obtain ⟨v1, vs1, d1, ds1, p1, q1, rfl, rfl, rfl, h1, r1⟩ := trodAll_cons r0
  obtain ⟨rfl, rfl, rfl⟩ := trodAll_nil r1
  obtain rfl : args = #[v0, v1] := by cases args; simp_all
  obtain ⟨rfl, rfl⟩ := trodVars_none hV
  obtain ⟨a0, rfl, rfl, rfl, w0⟩ := open_int Tryd.underlying22 (hval 0 22 v0 rfl rfl) h0
  obtain ⟨a1, rfl, rfl, rfl, w1⟩ := open_int Tryd.underlying2 (hval 1 2 v1 rfl rfl) h1
  clear hA0 hval0
  simp only [List.append_nil] at hW'
  refine (walk a0 w0 a1 w1 W (tab_of_laid hL)).mono fun e W' ⟨he, bel⟩ => ?_
  subst he
  exact ⟨_, rfl, _, _, _, [], [], [], hW', trodAll_mk1 (shut_bool Tryd.underlying4 _), (trodAll_cons_mk (shut_int Tryd.underlying22 w0) (trodAll_cons_mk (shut_int Tryd.underlying2 w1) trodAll_mk0)), rfl, bel.frame _, fun h => by cases h⟩
theorem over : Rows.fintTellsRow.holds Tryd.pinned (OpenSpec.ofChange Rows.fintTellsSpec) :=
  OpenClaim.holds_of_wide 3 Tryd.f3 rfl rfl rfl rfl rfl rfl rfl ⟨rfl, rfl, rfl, rfl, rfl⟩ rfl rfl rfl rfl rfl (by kernel_rfl) Tryd.func3 (by kernel_rfl)
    (of_decide_eq_true (by kernel_rfl)) (by unfold Func.isWrapper; first | (rw [if_pos (by decide +kernel)]; kernel_rfl) | (rw [if_neg (by decide +kernel)]; exact ⟨rfl, rfl⟩))
    (fun os started H enc _ => lifted os started H enc)
/-- The statement: the tied card. -/
theorem proved : Rows.FintTellsCardSaid :=
  Claim7.holds_tied_plain_at .later [] [.data] true Rows.fintTellsCard.stood.harness false
    over (fun _ h => by cases h) (by kernel_rfl) (fun _ h => by cases h) fintTells_row_tie rfl ⟨rfl, rfl⟩ (by kernel_rfl) rfl
    (fun f fn hf hfn => by
      obtain rfl : f = 3 := Option.some.inj ((show Tryd.prog.funcNamed Rows.fintTellsRow.func = some 3 by kernel_rfl).symm.trans hf) |>.symm
      obtain rfl : fn = Tryd.f3 := (Option.some.inj (Tryd.func3.symm.trans hfn)).symm
      exact ⟨by kernel_rfl, fun j t ht => by
        rw [Tryd.params3] at ht
        have hall : ∀ t ∈ #[22, 2], Tryd.prog.wantsStandIn t = false := by decide +kernel
        exact hall t (Array.mem_of_getElem? ht)⟩)
    (by kernel_rfl)
#print axioms proved
end Go.Proofs.YtmagdmjccljkiaaDoor.fintTells
