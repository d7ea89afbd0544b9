/- Which two of any numbers any side parts is what the document says, either way round. Conditions: none: every number of vertices, every slice of numbers (of more than 300 the law asks only that the program weighs cuts at all), every two numbers. -/
import Derived.Test.YtbankocbncpepaaSdAwake
import Derived.Test.YtbankocbncpepaaPairV
import Derived.Test.YtbankocbncpepaaOpenI
import Derived.Test.YtbankocbncpepaaDag
import Derived.Test.YtbankocbncpepaaChecked
import Derived.Test.YtbankocbncpepaaRows
import Derived.ChangeSlices
import Derived.ProofKit
import Derived.OpenShut
import Derived.ChangeOld
import Derived.Below
import Derived.Carry
namespace Go.Proofs.Ytbankocbncpepaa.sideParts
open Go.ChangeShapes Go.WideShapes Go.ChangeAt Go.RowKit EdPure NtPure CutPure SdPure Cm Sd
/-- What stands: the two numbers, the side. -/
def PtSt (w : World) (X : Nat) (u v : Int) (b : Option Addr) (l : List Int) (W : World) : Prop := Below w.heap.size w W ∧ TwoAt X W (.int .i64 u) (.int .i64 v) ∧ ReadsL encZ W.heap.size W b l
theorem PtSt.keep {w W W' : World} {X : Nat} {u v : Int} {b : Option Addr} {l : List Int} (h : PtSt w X u v b l W) (hb : Below W.heap.size W W') : PtSt w X u v b l W' :=
  ⟨h.1.trans (hb.mono h.1.size), h.2.1.on hb h.2.1.lt, h.2.2.over hb (Nat.le_refl _)⟩
set_option maxRecDepth 100000 in
set_option maxHeartbeats 2000000 in
theorem walk_list (n : Int) (a : Option Addr) (cap : Nat) (l : List Int) (x : Int × Int) (W : World) (h1 : ReadsL encZ W.heap.size W a l) (_h2 : l.length ≤ maxLen) (hx : (-9223372036854775808 ≤ x.1 ∧ x.1 ≤ 9223372036854775807) ∧ -9223372036854775808 ≤ x.2 ∧ x.2 ≤ 9223372036854775807) :
    Calls Try.prog 4 #[.int .i64 n, .slice a l.length cap, .agg #[.int .i64 x.1, .int .i64 x.2]] W fun r w' => r = .returned (.bool true) ∧ Below W.heap.size W w' := by
  obtain ⟨u, v⟩ := x
  simp only at hx ⊢
  clear hx
  have hbX : Below W.heap.size W (W.alloc (.cells #[.int .i64 u, .int .i64 v] 51)) := (Below.refl _ _).alloc (Nat.le_refl _) _
  have HE0 : Hid (PtSt W W.heap.size u v a l (W.alloc (.cells #[.int .i64 u, .int .i64 v] 51))) := Lib.hid ⟨hbX, TwoAt.new _ _ _ _, h1.over hbX (Nat.le_refl _)⟩
  clear h1 hbX
  by_cases hlen : l.length ≤ 300
  · have i1 : ¬ (l.length : Int) > 300 := by omega
    have HP1 := Lib.hid (fun w h => sideParts_any n a cap l (by omega) u v w h)
    have HP2 := Lib.hid (fun w h => sideParts_any n a cap l (by omega) v u w h)
    rw [parts_symm n l v u] at HP2
    have HR1 := Lib.hid (fun w h => refParts_any n a cap l (by omega) u v w h)
    generalize partsB n l u v = pb at *
    have b1 : (pb == pb) = true := beq_self_eq_true _
    go_enter Try.func4, Try.ntmps4
    go_upto_region 1 with fail
    generalize W.alloc (.cells #[.int .i64 u, .int .i64 v] 51) = V0 at *
    generalize W.heap.size = X at *
    go_upto_region 3 with fail
    have HE1 : Hid (PtSt W X u v a l V0.drew) := Lib.hid (HE0.out.keep ((Below.refl _ _).drew))
    clear HE0
    refine wp_region_held_drew (S := fun W' => W'.cell? ⟨X, 0, none⟩ = some (.int .i64 u) ∧ W'.cell? ⟨X, 1, none⟩ = some (.int .i64 v)) (by kernel_rfl) (two_all HE1.out.2.1) (fun hHeld => ?_)
    refine dag_take (i := 0) (v := ?vr0) rfl rfl (by kernel_rfl) (by kernel_rfl) (by kernel_rfl) (fun _ _ _ h => h) (Or.inl ⟨by kernel_rfl, fun w' hSw => ?hyr0⟩) (by assumption) ?restr0
    case hyr0 => ((try dsimp only at hSw); go_simp; (try with_reducible rfl))
    simp only [Act.put]
    refine dag_take (i := 1) (v := ?vr1) rfl rfl (by kernel_rfl) (by kernel_rfl) (by kernel_rfl) (fun _ _ _ h => h) (Or.inl ⟨by kernel_rfl, fun w' hSw => ?hyr1⟩) (by assumption) ?restr1
    case hyr1 => ((try dsimp only at hSw); go_simp; (try with_reducible rfl))
    simp only [Act.put]
    refine dag_take (i := 2) (v := ?vr2) rfl rfl (by kernel_rfl) (by kernel_rfl) (by kernel_rfl) (fun _ _ _ h => h) (Or.inl ⟨by kernel_rfl, fun w' hSw => ?hyr2⟩) (by assumption) ?restr2
    case hyr2 => ((try dsimp only at hSw); go_simp; (try with_reducible rfl))
    simp only [Act.put]
    refine dag_take (i := 3) (v := ?vr3) rfl rfl (by kernel_rfl) (by kernel_rfl) (by kernel_rfl) (fun _ _ _ h => h) (Or.inl ⟨by kernel_rfl, fun w' hSw => ?hyr3⟩) (by assumption) ?restr3
    case hyr3 => ((try dsimp only at hSw); go_simp; (try with_reducible rfl))
    simp only [Act.put]
    refine dag_take (i := 4) (v := ?vr4) rfl rfl (by kernel_rfl) (by kernel_rfl) (by kernel_rfl) (fun _ _ _ h => h) (Or.inl ⟨by kernel_rfl, fun w' hSw => ?hyr4⟩) (by assumption) ?restr4
    case hyr4 => ((try dsimp only at hSw); go_simp; (try with_reducible rfl))
    simp only [Act.put]
    refine dag_take (i := 5) (v := ?vr5) rfl rfl (by kernel_rfl) (by kernel_rfl) (by kernel_rfl) (fun _ _ _ h => h) (Or.inl ⟨by kernel_rfl, fun w' hSw => ?hyr5⟩) (by assumption) ?restr5
    case hyr5 => ((try dsimp only at hSw); go_simp; (try with_reducible rfl))
    simp only [Act.put]
    refine dag_take (i := 7) (v := ?vr7) rfl rfl (by kernel_rfl) (by kernel_rfl) (by kernel_rfl) (fun _ _ _ h => h) (Or.inl ⟨by kernel_rfl, fun w' hSw => ?hyr7⟩) (by assumption) ?restr7
    case hyr7 => ((try dsimp only at hSw); go_simp; (try with_reducible rfl))
    simp only [Act.put]
    refine dag_take (i := 8) (v := ?vr8) rfl rfl (by kernel_rfl) (by kernel_rfl) (by kernel_rfl) (fun _ _ _ h => h) (Or.inl ⟨by kernel_rfl, fun w' hSw => ?hyr8⟩) (by assumption) ?restr8
    case hyr8 => ((try dsimp only at hSw); go_simp; (try with_reducible rfl))
    simp only [Act.put]
    refine dag_take (i := 9) (v := ?vr9) rfl rfl (by kernel_rfl) (by kernel_rfl) (by kernel_rfl) (fun _ _ _ h => h) (Or.inl ⟨by kernel_rfl, fun w' hSw => ?hyr9⟩) (by assumption) ?restr9
    case hyr9 => ((try dsimp only at hSw); go_simp; (try with_reducible rfl))
    simp only [Act.put]
    refine dag_take (i := 10) (v := ?vr10) rfl rfl (by kernel_rfl) (by kernel_rfl) (by kernel_rfl) (fun _ _ _ h => h) (Or.inl ⟨by kernel_rfl, fun w' hSw => ?hyr10⟩) (by assumption) ?restr10
    case hyr10 => ((try dsimp only at hSw); go_simp; (try with_reducible rfl))
    simp only [Act.put]
    refine dag_take (i := 11) (v := ?vr11) rfl rfl (by kernel_rfl) (by kernel_rfl) (by kernel_rfl) (fun _ _ _ h => h) (Or.inl ⟨by kernel_rfl, fun w' hSw => ?hyr11⟩) (by assumption) ?restr11
    case hyr11 => ((try dsimp only at hSw); go_simp; (try with_reducible rfl))
    simp only [Act.put]
    refine dag_take (i := 12) (v := ?vr12) rfl rfl (by kernel_rfl) (by kernel_rfl) (by kernel_rfl) (fun _ _ _ h => h) (Or.inl ⟨by kernel_rfl, fun w' hSw => ?hyr12⟩) (by assumption) ?restr12
    case hyr12 => ((try dsimp only at hSw); go_simp; (try with_reducible rfl))
    simp only [Act.put]
    refine wpAnyH_ready (rs := [6]) (by kernel_rfl) (by simp) ?_
    refine AllReadyH.cons rfl (fun K hK => ?_) AllReadyH.nil
    go_simp
    refine (HP1.out _ HE1.out.2.2).mono ?_
    rintro e y1 ⟨rfl, hb⟩
    have HE2 := Lib.hid (HE1.out.keep hb)
    clear hb HE1
    go_wp2_with fail
    refine hK.out _ _ ?hSr6 (fun hHeld => ?restr6)
    case hSr6 => exact two_all HE2.out.2.1
    clear hK K
    refine wpAnyH_ready (rs := [13]) (by kernel_rfl) (by simp) ?_
    refine AllReadyH.cons rfl (fun K hK => ?_) AllReadyH.nil
    go_simp
    refine (HR1.out _ HE2.out.2.2).mono ?_
    rintro e y2 ⟨rfl, md, rfl⟩
    have HE3 := Lib.hid (HE2.out.keep (below_drewN (Below.refl _ _) md))
    clear HE2
    go_wp2_with fail
    refine hK.out _ _ ?hSr13 (fun hHeld => ?restr13)
    case hSr13 => exact two_all HE3.out.2.1
    clear hK K
    refine dag_take (i := 14) (v := ?vr14) rfl rfl (by kernel_rfl) (by kernel_rfl) (by kernel_rfl) (fun _ _ _ h => h) (Or.inl ⟨by kernel_rfl, fun w' hSw => ?hyr14⟩) (by assumption) ?restr14
    case hyr14 => ((try dsimp only at hSw); go_simp; (try with_reducible rfl))
    simp only [Act.put]
    refine dag_take (i := 15) (v := ?vr15) rfl rfl (by kernel_rfl) (by kernel_rfl) (by kernel_rfl) (fun _ _ _ h => h) (Or.inl ⟨by kernel_rfl, fun w' hSw => ?hyr15⟩) (by assumption) ?restr15
    case hyr15 => ((try dsimp only at hSw); go_simp; (try with_reducible rfl))
    simp only [Act.put]
    refine dag_take (i := 16) (v := ?vr16) rfl rfl (by kernel_rfl) (by kernel_rfl) (by kernel_rfl) (fun _ _ _ h => h) (Or.inl ⟨by kernel_rfl, fun w' hSw => ?hyr16⟩) (by assumption) ?restr16
    case hyr16 => ((try dsimp only at hSw); go_simp; (try with_reducible rfl))
    simp only [Act.put]
    refine dag_take (i := 17) (v := ?vr17) rfl rfl (by kernel_rfl) (by kernel_rfl) (by kernel_rfl) (fun _ _ _ h => h) (Or.inl ⟨by kernel_rfl, fun w' hSw => ?hyr17⟩) (by assumption) ?restr17
    case hyr17 => ((try dsimp only at hSw); go_simp; (try with_reducible rfl))
    simp only [Act.put]
    refine dag_take (i := 18) (v := ?vr18) rfl rfl (by kernel_rfl) (by kernel_rfl) (by kernel_rfl) (fun _ _ _ h => h) (Or.inl ⟨by kernel_rfl, fun w' hSw => ?hyr18⟩) (by assumption) ?restr18
    case hyr18 => ((try dsimp only at hSw); go_simp; (try with_reducible rfl))
    simp only [Act.put]
    refine dag_take (i := 19) (v := ?vr19) rfl rfl (by kernel_rfl) (by kernel_rfl) (by kernel_rfl) (fun _ _ _ h => h) (Or.inl ⟨by kernel_rfl, fun w' hSw => ?hyr19⟩) (by assumption) ?restr19
    case hyr19 => ((try dsimp only at hSw); go_simp; (try with_reducible rfl))
    simp only [Act.put]
    refine dag_take (i := 20) (v := ?vr20) rfl rfl (by kernel_rfl) (by kernel_rfl) (by kernel_rfl) (fun _ _ _ h => h) (Or.inl ⟨by kernel_rfl, fun w' hSw => ?hyr20⟩) (by assumption) ?restr20
    case hyr20 => ((try dsimp only at hSw); go_simp; (try with_reducible rfl))
    simp only [Act.put]
    refine dag_take (i := 21) (v := ?vr21) rfl rfl (by kernel_rfl) (by kernel_rfl) (by kernel_rfl) (fun _ _ _ h => h) (Or.inl ⟨by kernel_rfl, fun w' hSw => ?hyr21⟩) (by assumption) ?restr21
    case hyr21 => ((try dsimp only at hSw); go_simp; (try with_reducible rfl))
    simp only [Act.put]
    refine dag_take (i := 23) (v := ?vr23) rfl rfl (by kernel_rfl) (by kernel_rfl) (by kernel_rfl) (fun _ _ _ h => h) (Or.inl ⟨by kernel_rfl, fun w' hSw => ?hyr23⟩) (by assumption) ?restr23
    case hyr23 => ((try dsimp only at hSw); go_simp; (try with_reducible rfl))
    simp only [Act.put]
    refine dag_take (i := 24) (v := ?vr24) rfl rfl (by kernel_rfl) (by kernel_rfl) (by kernel_rfl) (fun _ _ _ h => h) (Or.inl ⟨by kernel_rfl, fun w' hSw => ?hyr24⟩) (by assumption) ?restr24
    case hyr24 => ((try dsimp only at hSw); go_simp; (try with_reducible rfl))
    simp only [Act.put]
    refine dag_take (i := 25) (v := ?vr25) rfl rfl (by kernel_rfl) (by kernel_rfl) (by kernel_rfl) (fun _ _ _ h => h) (Or.inl ⟨by kernel_rfl, fun w' hSw => ?hyr25⟩) (by assumption) ?restr25
    case hyr25 => ((try dsimp only at hSw); go_simp; (try with_reducible rfl))
    simp only [Act.put]
    refine dag_take (i := 26) (v := ?vr26) rfl rfl (by kernel_rfl) (by kernel_rfl) (by kernel_rfl) (fun _ _ _ h => h) (Or.inl ⟨by kernel_rfl, fun w' hSw => ?hyr26⟩) (by assumption) ?restr26
    case hyr26 => ((try dsimp only at hSw); go_simp; (try with_reducible rfl))
    simp only [Act.put]
    refine dag_take (i := 27) (v := ?vr27) rfl rfl (by kernel_rfl) (by kernel_rfl) (by kernel_rfl) (fun _ _ _ h => h) (Or.inl ⟨by kernel_rfl, fun w' hSw => ?hyr27⟩) (by assumption) ?restr27
    case hyr27 => ((try dsimp only at hSw); go_simp; (try with_reducible rfl))
    simp only [Act.put]
    refine dag_take (i := 28) (v := ?vr28) rfl rfl (by kernel_rfl) (by kernel_rfl) (by kernel_rfl) (fun _ _ _ h => h) (Or.inl ⟨by kernel_rfl, fun w' hSw => ?hyr28⟩) (by assumption) ?restr28
    case hyr28 => ((try dsimp only at hSw); go_simp; (try with_reducible rfl))
    simp only [Act.put]
    refine wpAnyH_ready (rs := [22]) (by kernel_rfl) (by simp) ?_
    refine AllReadyH.cons rfl (fun K hK => ?_) AllReadyH.nil
    go_simp
    refine (HP1.out _ HE3.out.2.2).mono ?_
    rintro e y3 ⟨rfl, hb⟩
    have HE4 := Lib.hid (HE3.out.keep hb)
    clear hb HE3
    go_wp2_with fail
    refine hK.out _ _ ?hSr22 (fun hHeld => ?restr22)
    case hSr22 => exact two_all HE4.out.2.1
    clear hK K
    refine wpAnyH_ready (rs := [29]) (by kernel_rfl) (by simp) ?_
    refine AllReadyH.cons rfl (fun K hK => ?_) AllReadyH.nil
    go_simp
    refine (HP2.out _ HE4.out.2.2).mono ?_
    rintro e y4 ⟨rfl, hb⟩
    have HE5 := Lib.hid (HE4.out.keep hb)
    clear hb HE4
    go_wp2_with fail
    refine hK.out _ _ ?hSr29 (fun hHeld => ?restr29)
    case hSr29 => exact two_all HE5.out.2.1
    clear hK K
    refine dag_take (i := 30) (v := ?vr30) rfl rfl (by kernel_rfl) (by kernel_rfl) (by kernel_rfl) (fun _ _ _ h => h) (Or.inl ⟨by kernel_rfl, fun w' hSw => ?hyr30⟩) (by assumption) ?restr30
    case hyr30 => ((try dsimp only at hSw); go_simp; (try with_reducible rfl))
    simp only [Act.put]
    refine dag_take (i := 31) (v := ?vr31) rfl rfl (by kernel_rfl) (by kernel_rfl) (by kernel_rfl) (fun _ _ _ h => h) (Or.inl ⟨by kernel_rfl, fun w' hSw => ?hyr31⟩) (by assumption) ?restr31
    case hyr31 => ((try dsimp only at hSw); go_simp; (try with_reducible rfl))
    simp only [Act.put]
    refine dag_take (i := 32) (v := ?vr32) rfl rfl (by kernel_rfl) (by kernel_rfl) (by kernel_rfl) (fun _ _ _ h => h) (Or.inl ⟨by kernel_rfl, fun w' hSw => ?hyr32⟩) (by assumption) ?restr32
    case hyr32 => ((try dsimp only at hSw); go_simp; (try with_reducible rfl))
    simp only [Act.put]
    refine wpAnyH_ready (rs := [33]) (by kernel_rfl) (by simp) ?_
    refine AllReadyH.cons rfl (fun K hK => ?_) AllReadyH.nil
    go_simp
    refine (awake_any _).mono ?_
    rintro e y5 ⟨rfl, hb⟩
    have HE6 := Lib.hid (HE5.out.keep hb)
    clear hb HE5
    go_wp2_with fail
    refine hK.out _ _ ?hSr33 (fun hHeld => ?restr33)
    case hSr33 => exact two_all HE6.out.2.1
    clear hK K
    refine dag_take (i := 34) (v := ?vr34) rfl rfl (by kernel_rfl) (by kernel_rfl) (by kernel_rfl) (fun _ _ _ h => h) (Or.inl ⟨by kernel_rfl, fun w' hSw => ?hyr34⟩) (by assumption) ?restr34
    case hyr34 => ((try dsimp only at hSw); go_simp; (try with_reducible rfl))
    simp only [Act.put]
    refine wpAnyH_ready (rs := [35]) (by kernel_rfl) (by simp) ?_
    refine AllReadyH.cons rfl (fun K hK => ?_) AllReadyH.nil
    go_simp
    refine hK.out _ _ (by assumption) (fun hHeld => ?_)
    clear hK K
    refine wpAnyH_done (by kernel_rfl) ?_ _
    go_wp2
    go_ret
    exact ⟨rfl, HE6.out.1⟩
  · have i1 : (l.length : Int) > 300 := by omega
    go_enter Try.func4, Try.ntmps4
    go_wp2_with fail
    refine (awake_any _).mono ?_
    rintro e w1 ⟨rfl, hb1⟩
    have HB := Lib.hid (HE0.out.1.trans (hb1.mono HE0.out.1.size))
    clear hb1
    go_wp2
    go_ret
    exact ⟨rfl, HB.out⟩
theorem own : ownKnob Try.prog.godebug = none := by kernel_rfl
theorem laidOut : laidOutB Try.prog = true := by kernel_rfl
set_option maxRecDepth 100000 in
theorem lifted (os : Os) (started : os.Started) (H : Type) (enc : TypeId × Value → H) :
    ReturnsInHanded {} Try.checked os 4 .any (Rows.sidePartsSpec.pre6 enc Try.prog Try.f4 Rows.sidePartsRow.domain false) (Rows.sidePartsSpec.post enc Try.prog Try.f4 false true false false) := by
  refine returnsInHanded_of_change (C := Try.checked) own started (by kernel_rfl) Try.func4
    (ChangeSpec.witness6 (enc := enc) (C := Try.checked) false ⟨#[], #[.int .i64 0, .slice none 0 0, .agg #[.int .i64 0, .int .i64 0]], []⟩ 8 (by kernel_rfl) (by kernel_rfl) (by kernel_rfl) (by kernel_rfl)) ?_
  intro W base args ds gs before hval0 hW hcnd _
  have hval : ∀ (j : Nat) t v, Try.f4.params[j]? = some t → args[j]? = some v → Value.okWide Try.prog W .any base t v := hval0
  have hW' := hW
  obtain ⟨p, q, hA0, hV, rfl, hfz, hnd⟩ := hW
  have hA : DataW.TrodAll enc Try.prog W 0 (fun _ => true) true Try.f4.params.toList args.toList ds p := hA0
  rw [Try.params4] at hA hval
  obtain ⟨v0, vs0, d0, ds0, p0, q0, hargs, rfl, rfl, h0, r0⟩ := trodAll_cons hA
  obtain ⟨v1, vs1, d1, ds1, p1, q1, rfl, rfl, rfl, h1, r1⟩ := trodAll_cons r0
  obtain ⟨v2, vs2, d2, ds2, p2, q2, rfl, rfl, rfl, h2, r2⟩ := trodAll_cons r1
  obtain ⟨rfl, rfl, rfl⟩ := trodAll_nil r2
  obtain rfl : args = #[v0, v1, v2] := by cases args; simp_all
  obtain ⟨rfl, rfl⟩ := trodVars_none hV
  obtain ⟨a0, rfl, rfl, rfl, w0⟩ := open_int Try.underlying3 (hval 0 3 v0 rfl rfl) h0
  obtain ⟨a1, len1, cap1, rfl⟩ := okWide_slice Try.underlying23 (hval 1 23 v1 rfl rfl)
  have k1 := h1
  have lt1 : ∀ x ∈ p1, x.block < W.heap.size := by obtain ⟨m, hm⟩ := k1; exact DataW.trod_lt m _ _ _ hm
  obtain ⟨l1, hlen1, w1⟩ : ∃ l : List Int, l.length = len1 ∧ ReadsL encZ W.heap.size W a1 l ∧ l.length ≤ maxLen := by
    obtain ⟨fuel, hf⟩ := h1
    exact open_intsL hf
  subst hlen1
  have k2 := h2
  have lt2 : ∀ x ∈ p2, x.block < W.heap.size := by obtain ⟨m, hm⟩ := k2; exact DataW.trod_lt m _ _ _ hm
  obtain ⟨a2, rfl, w2⟩ := open_pairV (hval 2 51 v2 rfl rfl) h2
  clear hA0 hval0
  refine (walk_list a0 a1 cap1 l1 a2 W w1.1 w1.2 w2).mono fun e W' ⟨he, bel⟩ => ?_
  subst he
  exact ⟨_, rfl, _, _, _, [], _, [], hW', trodAll_mk1 (shut_bool Try.underlying4 _), (trodAll_cons_mk (shut_int Try.underlying3 w0) (trodAll_cons_mk (Below.trod laidOut (by kernel_rfl) (of_decide_eq_true (by kernel_rfl)) k1 bel lt1) (trodAll_cons_mk (Below.trod laidOut (by kernel_rfl) (of_decide_eq_true (by kernel_rfl)) k2 bel lt2) trodAll_mk0))), rfl, bel.frame _, fun h => by cases h⟩
theorem over : Rows.sidePartsRow.holds Try.pinned (OpenSpec.ofChange Rows.sidePartsSpec) :=
  OpenClaim.holds_of_wide 4 Try.f4 rfl rfl rfl rfl rfl rfl rfl ⟨rfl, rfl, rfl, rfl, rfl⟩ rfl rfl rfl rfl rfl (by kernel_rfl) Try.func4 (by kernel_rfl)
    (of_decide_eq_true (by kernel_rfl)) (by unfold Func.isWrapper; first | (rw [if_pos (by decide +kernel)]; kernel_rfl) | (rw [if_neg (by decide +kernel)]; exact ⟨rfl, rfl⟩))
    (fun os started H enc _ => lifted os started H enc)
/-- The statement. -/
theorem proved : Rows.SidePartsSaid := over
#print axioms proved
end Go.Proofs.Ytbankocbncpepaa.sideParts
