/- Any edges merged, and split, or that their weights do not fit: all as the document says. Conditions: none: every slice of edges (of more than a hundred the law asks only that the program merges edges at all). -/
import Derived.Test.YtbkcjbknoljogaaEdAwake
import Derived.Test.YtbkcjbknoljogaaEdRefMerge
import Derived.Test.YtbkcjbknoljogaaEdRefSplit
import Derived.Test.YtbkcjbknoljogaaEdOpen
import Derived.Test.YtbkcjbknoljogaaChecked
import Derived.Test.YtbkcjbknoljogaaRows
import Derived.ChangeSlices
import Derived.ProofKit
import Derived.OpenShut
import Derived.ChangeOld
import Derived.Below
import Derived.Carry
namespace Go.Proofs.Ytbkcjbknoljogaa.edgeMerges
open Go.ChangeShapes Go.WideShapes Go.ChangeAt Go.RowKit EdPure NumPure
def mL (l : List Ed) : List Ed := (mergeE l).getD []
def mB (l : List Ed) : Bool := (mergeE l).isSome
theorem mL_len {l : List Ed} (h : InL l) (hl : l.length ≤ 100000) : (mL l).length ≤ 1048576 := by
  unfold mL
  cases hm : mergeE l with
  | none => simp
  | some A => have := (merge_good h hm).2.1; simp; omega
theorem sL_len (l : List Ed) : (splitR l).length ≤ 1048576 := by
  cases hB : splitB l
  · rw [splitR_no hB]; simp
  · rw [splitR_yes hB, split_len]; exact (splitB_cnt hB).1
section
variable (a : Option Addr) (c : Nat) (l : List Ed) (hl : l.length ≤ 100000) (hI : InL l) (w : World) (hR : ReadsE w.heap.size w a l)
include hl hI hR
theorem merge_u : Calls Try.prog 19 #[.slice a l.length c] w fun e w' => Below w.heap.size w w' ∧ ∃ q cap, e = .returned (.tuple #[.slice q (mL l).length cap, .bool (mB l)]) ∧ ReadsE w'.heap.size w' q (mL l) := by
  refine (merge_any a c l (by omega) hI w hR).mono ?_
  rintro e w' ⟨hb, ⟨hn, rfl⟩ | ⟨A, q, cap, hs, rfl, hr⟩⟩
  · unfold mL mB
    rw [hn]
    exact ⟨hb, none, 0, rfl, Or.inl rfl⟩
  · unfold mL mB
    rw [hs]
    exact ⟨hb, q, cap, rfl, hr⟩
theorem refMerge_u : Calls Try.prog 20 #[.slice a l.length c] w fun e w' => Below w.heap.size w w' ∧ ∃ q cap, e = .returned (.agg #[.slice q (mL l).length cap, .bool (mB l)]) ∧ ReadsE w'.heap.size w' q (mL l) := by
  refine (refMerge_any a c l hl hI w hR).mono ?_
  rintro e w' ⟨hb, ⟨hn, rfl⟩ | ⟨A, q, cap, hs, rfl, hr⟩⟩
  · unfold mL mB
    rw [hn]
    exact ⟨hb, none, 0, rfl, Or.inl rfl⟩
  · unfold mL mB
    rw [hs]
    exact ⟨hb, q, cap, rfl, hr⟩
theorem refSplit_u : Calls Try.prog 22 #[.slice a l.length c] w fun e w' => Below w.heap.size w w' ∧ ∃ q cap, e = .returned (.agg #[.slice q (splitR l).length cap, .bool (splitB l)]) ∧ ReadsE w'.heap.size w' q (splitR l) := by
  refine (refSplit_any a c l hl hI w hR).mono ?_
  rintro e w' ⟨hb, ⟨hn, rfl⟩ | ⟨A, q, cap, hs, rfl, hr⟩⟩
  · cases hB : splitB l
    · rw [splitR_no hB]
      exact ⟨hb, none, 0, rfl, Or.inl rfl⟩
    · rw [splitO_yes hB] at hn; cases hn
  · cases hB : splitB l
    · rw [splitO_no hB] at hs; cases hs
    · rw [splitO_yes hB] at hs
      obtain rfl := Option.some.inj hs
      rw [splitR_yes hB]
      exact ⟨hb, q, cap, rfl, hr⟩
end
theorem same_yes (a b : Option Addr) (c d : Nat) (l : List Ed) (hl : l.length ≤ 1048576) (w : World) (hR : ReadsE w.heap.size w a l) (hS : ReadsE w.heap.size w b l) :
    Calls Try.prog 23 #[.slice a l.length c, .slice b l.length d] w fun e w' => e = .returned (.bool true) ∧ Below w.heap.size w w' := by
  have := same_any a b c d l l hl hl w hR hS
  rwa [decide_eq_true (rfl : l = l)] at this
set_option maxRecDepth 100000 in
set_option maxHeartbeats 2000000 in
theorem walk_list (a : Option Addr) (cap : Nat) (l : List Ed) (W : World) (h1 : EdIn W a l) (_h2 : l.length ≤ maxLen) :
    Calls Try.prog 4 #[.slice a l.length cap] W fun r w' => r = .returned (.bool true) ∧ Below W.heap.size W w' := by
  by_cases hlen : l.length ≤ 100
  · have i1 : ¬ (l.length : Int) > 100 := by omega
    have hl5 : l.length ≤ 100000 := by omega
    have HI := Lib.hid h1.1
    have HR := Lib.hid h1.2
    have HML := Lib.hid (mL_len h1.1 hl5)
    have HM := Lib.hid (fun w (h : ReadsE w.heap.size w a l) => merge_u a cap l hl5 HI.out w h)
    have HRM := Lib.hid (fun w (h : ReadsE w.heap.size w a l) => refMerge_u a cap l hl5 HI.out w h)
    have HS := Lib.hid (fun w (h : ReadsE w.heap.size w a l) => split_any a cap l (by omega) HI.out w h)
    have HRS := Lib.hid (fun w (h : ReadsE w.heap.size w a l) => refSplit_u a cap l hl5 HI.out w h)
    have HSL := Lib.hid (sL_len l)
    clear h1
    obtain ⟨A, hA⟩ : ∃ A, A = mL l := ⟨_, rfl⟩
    obtain ⟨bA, hbA⟩ : ∃ bA, bA = mB l := ⟨_, rfl⟩
    obtain ⟨B, hB⟩ : ∃ B, B = splitR l := ⟨_, rfl⟩
    obtain ⟨bB, hbB⟩ : ∃ bB, bB = splitB l := ⟨_, rfl⟩
    unfold SplitOut at HS
    rw [← hA] at HML
    rw [← hB] at HSL
    simp only [← hA, ← hbA, ← hB, ← hbB] at HM HRM HS HRS
    clear hA hbA hB hbB
    have s1 : (bA == bA) = true := beq_self_eq_true _
    have s2 : (bB == bB) = true := beq_self_eq_true _
    go_enter Try.func4, Try.ntmps4
    go_wp2_with fail
    refine (HM.out _ HR.out).mono ?_
    rintro e w1 ⟨hb1, q1, p1, rfl, hr1⟩
    have HB1 := Lib.hid hb1
    have HR1 := Lib.hid (HR.out.over hb1 (Nat.le_refl _))
    have HA1 := Lib.hid hr1
    clear hb1 hr1 HR HM
    go_wp2_with fail
    refine (HRM.out _ HR1.out).mono ?_
    rintro e w2 ⟨hb2, q2, p2, rfl, hr2⟩
    have hb2' : Below w1.heap.size w1 (w2.alloc (.cells #[.slice q2 A.length p2, .bool bA] 45)) := hb2.alloc hb2.size _
    have HB2 := Lib.hid (HB1.out.trans (hb2'.mono HB1.out.size))
    have HR2 := Lib.hid (HR1.out.over hb2' (Nat.le_refl _))
    have HA2 := Lib.hid (HA1.out.over hb2' (Nat.le_refl _))
    have HW2 := Lib.hid (hr2.over ((Below.refl _ _).alloc (Nat.le_refl _) (.cells #[.slice q2 A.length p2, .bool bA] 45)) (Nat.le_refl _))
    have HK2 := Lib.hid (TwoAt.new w2 (.slice q2 A.length p2) (.bool bA) 45)
    clear hb2 hb2' hr2 HB1 HR1 HA1 HRM
    go_wp2_with fail
    generalize w2.alloc (.cells #[.slice q2 A.length p2, .bool bA] 45) = w3 at *
    generalize w2.heap.size = K at *
    refine (HS.out _ HR2.out).mono ?_
    rintro e w4 ⟨hb4, q4, p4, rfl, hr4⟩
    have HB4 := Lib.hid (HB2.out.trans (hb4.mono HB2.out.size))
    have HR4 := Lib.hid (HR2.out.over hb4 (Nat.le_refl _))
    have HA4 := Lib.hid (HA2.out.over hb4 (Nat.le_refl _))
    have HW4 := Lib.hid (HW2.out.over hb4 (Nat.le_refl _))
    have HK4 := Lib.hid (HK2.out.on hb4 HK2.out.lt)
    have HS4 := Lib.hid hr4
    clear hb4 hr4 HB2 HR2 HA2 HW2 HK2 HS
    go_wp2_with fail
    refine (HRS.out _ HR4.out).mono ?_
    rintro e w5 ⟨hb5, q5, p5, rfl, hr5⟩
    have hb5' : Below w4.heap.size w4 (w5.alloc (.cells #[.slice q5 B.length p5, .bool bB] 45)) := hb5.alloc hb5.size _
    have HB5 := Lib.hid (HB4.out.trans (hb5'.mono HB4.out.size))
    have HA5 := Lib.hid (HA4.out.over hb5' (Nat.le_refl _))
    have HW5 := Lib.hid (HW4.out.over hb5' (Nat.le_refl _))
    have hK5 := HK4.out.on hb5' HK4.out.lt
    have HS5 := Lib.hid (HS4.out.over hb5' (Nat.le_refl _))
    have HP5 := Lib.hid (hr5.over ((Below.refl _ _).alloc (Nat.le_refl _) (.cells #[.slice q5 B.length p5, .bool bB] 45)) (Nat.le_refl _))
    have hL5 := TwoAt.new w5 (.slice q5 B.length p5) (.bool bB) 45
    have HK5 := Lib.hid hK5
    have HL5 := Lib.hid hL5
    clear hb5 hb5' hr5 HB4 HR4 HA4 HW4 HK4 HS4 HRS hK5 hL5
    go_upto_region 7 with fail
    generalize w5.alloc (.cells #[.slice q5 B.length p5, .bool bB] 45) = w6 at *
    generalize w5.heap.size = K5 at *
    obtain ⟨c0, c1, -, -⟩ := HK5.out
    obtain ⟨d0, d1, -, -⟩ := HL5.out
    go_wp2_with fail
    refine (same_yes q1 q2 p1 p2 A HML.out w6 HA5.out HW5.out).mono ?_
    rintro e w7 ⟨rfl, hb7⟩
    obtain ⟨y0, y1, -, -⟩ := HL5.out.on hb7 HL5.out.lt
    have HB7 := Lib.hid (HB5.out.trans (hb7.mono HB5.out.size))
    have HS7 := Lib.hid (HS5.out.over hb7 (Nat.le_refl _))
    have HP7 := Lib.hid (HP5.out.over hb7 (Nat.le_refl _))
    clear hb7 c0 c1 d0 d1
    go_wp2_with fail
    refine (same_yes q4 q5 p4 p5 B HSL.out w7 HS7.out HP7.out).mono ?_
    rintro e w8 ⟨rfl, hb8⟩
    have HB8 := Lib.hid (HB7.out.trans (hb8.mono HB7.out.size))
    clear hb8
    go_wp2_with fail
    refine (awake_any w8).mono ?_
    rintro e w9 ⟨rfl, hb9⟩
    have HB9 := Lib.hid (HB8.out.trans (hb9.mono HB8.out.size))
    clear hb9
    go_wp2
    go_ret
    exact ⟨rfl, HB9.out⟩
  · have i1 : (l.length : Int) > 100 := by omega
    go_enter Try.func4, Try.ntmps4
    go_wp2_with fail
    refine (awake_any _).mono ?_
    rintro e w1 ⟨rfl, hb1⟩
    have HB1 := Lib.hid hb1
    clear hb1
    go_wp2
    go_ret
    exact ⟨rfl, HB1.out⟩
theorem own : ownKnob Try.prog.godebug = none := by kernel_rfl
theorem laidOut : laidOutB Try.prog = true := by kernel_rfl
set_option maxRecDepth 100000 in
theorem lifted (os : Os) (started : os.Started) (H : Type) (enc : TypeId × Value → H) :
    ReturnsInHanded {} Try.checked os 4 .any (Rows.edgeMergesSpec.pre6 enc Try.prog Try.f4 Rows.edgeMergesRow.domain false) (Rows.edgeMergesSpec.post enc Try.prog Try.f4 false true false false) := by
  refine returnsInHanded_of_change (C := Try.checked) own started (by kernel_rfl) Try.func4
    (ChangeSpec.witness6 (enc := enc) (C := Try.checked) false ⟨#[], #[.slice none 0 0], []⟩ 8 (by kernel_rfl) (by kernel_rfl) (by kernel_rfl) (by kernel_rfl)) ?_
  intro W base args ds gs before hval0 hW hcnd _
  have hval : ∀ (j : Nat) t v, Try.f4.params[j]? = some t → args[j]? = some v → Value.okWide Try.prog W .any base t v := hval0
  have hW' := hW
  obtain ⟨p, q, hA0, hV, rfl, hfz, hnd⟩ := hW
  have hA : DataW.TrodAll enc Try.prog W 0 (fun _ => true) true Try.f4.params.toList args.toList ds p := hA0
  rw [Try.params4] at hA hval
  obtain ⟨v0, vs0, d0, ds0, p0, q0, hargs, rfl, rfl, h0, r0⟩ := trodAll_cons hA
  obtain ⟨rfl, rfl, rfl⟩ := trodAll_nil r0
  obtain rfl : args = #[v0] := by cases args; simp_all
  obtain ⟨rfl, rfl⟩ := trodVars_none hV
  obtain ⟨a0, len0, cap0, rfl⟩ := okWide_slice Try.underlying22 (hval 0 22 v0 rfl rfl)
  have k0 := h0
  have lt0 : ∀ x ∈ p0, x.block < W.heap.size := by obtain ⟨m, hm⟩ := k0; exact DataW.trod_lt m _ _ _ hm
  obtain ⟨l0, hlen0, w0⟩ : ∃ l : List Ed, l.length = len0 ∧ EdIn W a0 l ∧ l.length ≤ maxLen := by
    obtain ⟨fuel, hf⟩ := h0
    exact open_edges hf
  subst hlen0
  clear hA0 hval0
  refine (walk_list a0 cap0 l0 W w0.1 w0.2).mono fun e W' ⟨he, bel⟩ => ?_
  subst he
  exact ⟨_, rfl, _, _, _, [], _, [], hW', trodAll_mk1 (shut_bool Try.underlying4 _), (trodAll_cons_mk (Below.trod laidOut (by kernel_rfl) (of_decide_eq_true (by kernel_rfl)) k0 bel lt0) trodAll_mk0), rfl, bel.frame _, fun h => by cases h⟩
theorem over : Rows.edgeMergesRow.holds Try.pinned (OpenSpec.ofChange Rows.edgeMergesSpec) :=
  OpenClaim.holds_of_wide 4 Try.f4 rfl rfl rfl rfl rfl rfl rfl ⟨rfl, rfl, rfl, rfl, rfl⟩ rfl rfl rfl rfl rfl (by kernel_rfl) Try.func4 (by kernel_rfl)
    (of_decide_eq_true (by kernel_rfl)) (by unfold Func.isWrapper; first | (rw [if_pos (by decide +kernel)]; kernel_rfl) | (rw [if_neg (by decide +kernel)]; exact ⟨rfl, rfl⟩))
    (fun os started H enc _ => lifted os started H enc)
/-- The statement. -/
theorem proved : Rows.EdgeMergesSaid := over
#print axioms proved
end Go.Proofs.Ytbkcjbknoljogaa.edgeMerges
