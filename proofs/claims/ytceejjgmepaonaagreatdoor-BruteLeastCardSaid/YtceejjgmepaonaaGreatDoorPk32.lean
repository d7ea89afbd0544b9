/- Texts that the laws of this seat stand on, part 32. -/
import Derived.Test.YtceejjgmepaonaaGreatDoorPk30
import Derived.Test.YtceejjgmepaonaaGreatDoorPk31
import Derived.Deep.Cut
import Derived.Test.YtceejjgmepaonaaGreatDoorPk18
import Derived.Deep.RegionWith
import Derived.Test.YtceejjgmepaonaaGreatDoorPk20
import Derived.Maps.AppendAt
/- The law's awake (layer 22). -/
namespace Go.Proofs.YtceejjgmepaonaaGreatDoor.Br
open Go.RowKit Go.ChangeShapes EdPure NtPure CutPure SdPure BrPure Cm Sd Bg
abbrev awL : List Ed := [(0, 1, 1), (1, 2, 1), (0, 2, 1)]
abbrev awM : List Ed := [(0, 1, 1), (0, 2, 1), (1, 2, 1)]
theorem aw_merge : mergeE awL = some awM := by decide
theorem aw_err : errN 3 awL = (0, 0) := by decide
theorem aw_in : InL awL := by
  intro e he
  simp only [List.mem_cons, List.not_mem_nil, or_false] at he
  rcases he with rfl | rfl | rfl <;> (unfold InE In; simp)
theorem aw_facts : lsW 3 awM = 2 ∧ lsS 3 awM = [1] ∧ lsC 3 awM = 3 ∧ prW 3 awM 1 0 = 2 ∧ smallE ((3 : Nat) : Int) = 0 ∧ prE 3 1 0 = 0 := by decide
theorem lit_one (w : World) (x : Int) (T : TypeId) : Below w.heap.size w (w.alloc (.cells #[.int .i64 x] T)) ∧ ReadsL encZ (w.alloc (.cells #[.int .i64 x] T)).heap.size (w.alloc (.cells #[.int .i64 x] T)) (some ⟨w.heap.size, 0, none⟩) [x] := by
  refine ⟨(Below.refl _ _).alloc (Nat.le_refl _) _, Or.inr ⟨w.heap.size, 0, rfl, by simp, fun i hi => ?_⟩⟩
  match i, hi with
  | 0, _ => simp [encZ]
set_option maxRecDepth 100000 in
set_option maxHeartbeats 1600000 in
theorem awake_any (w : World) (hT : Tab w) : Calls Tryz.prog 4 #[] w fun e w' => e = .returned (.bool true) ∧ Below w.heap.size w w' := by
  have HTab := Lib.hid hT
  clear hT
  have hb0 : Below w.heap.size w (w.alloc (.cells #[.int .i64 0, .int .i64 1, .int .i64 1, .int .i64 1, .int .i64 2, .int .i64 1, .int .i64 0, .int .i64 2, .int .i64 1] 51)) := (Below.refl _ _).alloc (Nat.le_refl _) _
  have hR : ReadsE (w.alloc (.cells #[.int .i64 0, .int .i64 1, .int .i64 1, .int .i64 1, .int .i64 2, .int .i64 1, .int .i64 0, .int .i64 2, .int .i64 1] 51)).heap.size (w.alloc (.cells #[.int .i64 0, .int .i64 1, .int .i64 1, .int .i64 1, .int .i64 2, .int .i64 1, .int .i64 0, .int .i64 2, .int .i64 1] 51)) (some ⟨w.heap.size, 0, none⟩) awL := by
    refine Or.inr ⟨w.heap.size, 0, rfl, by simp, fun i hi => ?_⟩
    match i, hi with
    | 0, _ => simp
    | 1, _ => simp
    | 2, _ => simp
  have HM := Lib.hid (newNet_any 3 _ 3 _ aw_in _ hR)
  have HB := Lib.hid hb0
  obtain ⟨f1, f2, f3, f4, f5, f6⟩ := aw_facts
  clear hR hb0
  go_enter Tryz.func4, Tryz.ntmps4
  go_wp2_with fail
  refine HM.out.mono ?_
  rintro e w1 ⟨hb1, ⟨hn, -⟩ | ⟨-, N, M, g0, hN, hN4, hg, -, -, hA, rfl, hn⟩⟩
  · rw [aw_err] at hn; exact absurd rfl hn
  obtain rfl := Option.some.inj (aw_merge.symm.trans hA)
  obtain rfl : N = 3 := by omega
  replace HB := Lib.hid (HB.out.trans (hb1.mono HB.out.size))
  have HG := Lib.hid hg
  have HN := Lib.hid hn
  have HL1 := Lib.hid (fun w h ht => brLeast_any (some ⟨g0, 0, none⟩) 3 awM (by omega) HG.out (by simp) w h ht)
  have HL2 := Lib.hid (fun w h ht => brCount_any (some ⟨g0, 0, none⟩) 3 awM (by omega) HG.out (by simp) w h ht)
  have HL3 := Lib.hid (fun w h ht => brPair_any (some ⟨g0, 0, none⟩) 3 awM (by omega) HG.out (by simp) 1 0 w h ht)
  unfold SideC at HL1 HL3
  rw [f1, f2, f5] at HL1
  rw [f3, f5] at HL2
  rw [f4, f6] at HL3
  clear hb1 hA hg hn HM hN f1 f2 f3 f4 f5 f6
  go_wp2_with fail
  refine (HL1.out _ HN.out (tab_on HTab.out (by first | exact Below.refl _ _ | exact HB.out | exact HB.out.1 | exact HB.out.1.1 | exact HBL.out | exact HBL.out.1 | exact HBL.out.1.1 | exact HT2.out | exact HT2.out.1 | exact HT2.out.1.1 | exact HT4.out | exact HT4.out.1 | exact HT4.out.1.1) (Nat.le_refl _))).mono ?_
  rintro e w2 ⟨hb2, q2, c2, rfl, hr2⟩
  have hbA : Below w2.heap.size w2 (w2.alloc (.cells #[.int .i64 2, .slice q2 1 c2] 30)) := (Below.refl _ _).alloc (Nat.le_refl _) _
  have hbB := hb2.trans (hbA.mono hb2.size)
  replace HB := Lib.hid (HB.out.trans (hbB.mono HB.out.size))
  replace HN := Lib.hid (HN.out.over hbB)
  have HR2 := Lib.hid (hr2.over hbA (Nat.le_refl _))
  have HT2 := Lib.hid (TwoAt.new w2 (.int .i64 2) (.slice q2 1 c2) 30)
  clear hb2 hbA hbB hr2
  go_wp2_with fail
  generalize w2.alloc (.cells #[.int .i64 2, .slice q2 1 c2] 30) = W2 at *
  generalize w2.heap.size = X at *
  refine (HL2.out _ HN.out (tab_on HTab.out (by first | exact Below.refl _ _ | exact HB.out | exact HB.out.1 | exact HB.out.1.1 | exact HBL.out | exact HBL.out.1 | exact HBL.out.1.1 | exact HT2.out | exact HT2.out.1 | exact HT2.out.1.1 | exact HT4.out | exact HT4.out.1 | exact HT4.out.1.1) (Nat.le_refl _))).mono ?_
  rintro e w3 ⟨rfl, hb3⟩
  replace HB := Lib.hid (HB.out.trans (hb3.mono HB.out.size))
  replace HN := Lib.hid (HN.out.over hb3)
  replace HR2 := Lib.hid (HR2.out.over hb3 (Nat.le_refl _))
  replace HT2 := Lib.hid (HT2.out.on hb3 HT2.out.lt)
  clear hb3
  go_wp2_with fail
  refine (HL3.out _ HN.out (tab_on HTab.out (by first | exact Below.refl _ _ | exact HB.out | exact HB.out.1 | exact HB.out.1.1 | exact HBL.out | exact HBL.out.1 | exact HBL.out.1.1 | exact HT2.out | exact HT2.out.1 | exact HT2.out.1.1 | exact HT4.out | exact HT4.out.1 | exact HT4.out.1.1) (Nat.le_refl _))).mono ?_
  generalize prS 3 awM 1 0 = ps at *
  rintro e w4 ⟨hb4, q4, c4, rfl, -⟩
  have hbA : Below w4.heap.size w4 (w4.alloc (.cells #[.int .i64 2, .slice q4 ps.length c4] 30)) := (Below.refl _ _).alloc (Nat.le_refl _) _
  have hbB := hb4.trans (hbA.mono hb4.size)
  replace HB := Lib.hid (HB.out.trans (hbB.mono HB.out.size))
  replace HR2 := Lib.hid (HR2.out.over hbB (Nat.le_refl _))
  replace HT2 := Lib.hid (HT2.out.on hbB HT2.out.lt)
  have HT4 := Lib.hid (TwoAt.new w4 (.int .i64 2) (.slice q4 ps.length c4) 30)
  clear hb4 hbA hbB
  generalize hW4 : w4.alloc (.cells #[.int .i64 2, .slice q4 ps.length c4] 30) = W4 at *
  generalize hY : w4.heap.size = Y at *
  have HWY := Lib.hid (And.intro hW4 hY)
  clear hW4 hY
  obtain ⟨m0, m1, -, -⟩ := HT2.out
  obtain ⟨n0, n1, -, -⟩ := HT4.out
  have ml := HT2.out.lt
  have nl := HT4.out.lt
  obtain ⟨l1, l2⟩ := lit_one W4 1 3
  have HI := Lib.hid (ints_any q2 _ c2 1 [1] [1] _ (HR2.out.over l1 (Nat.le_refl _)) l2 (by simp))
  rw [show decide (([1] : List Int) = [1]) = true from rfl] at HI
  have HBL := Lib.hid (HB.out.trans (l1.mono HB.out.size))
  have HN0 := Lib.hid (HT4.out.on l1 HT4.out.lt)
  clear l1 l2
  go_upto_region 5 with fail
  rw [HWY.out.1, HWY.out.2]
  go_wp2_with fail
  refine HI.out.mono ?_
  rintro e w5 ⟨rfl, m5, rfl⟩
  have hb5 : Below (W4.alloc (.cells #[.int .i64 1] 3)).heap.size (W4.alloc (.cells #[.int .i64 1] 3)) ((W4.alloc (.cells #[.int .i64 1] 3)).drewN m5) := below_drewN (Below.refl _ _) m5
  replace HBL := Lib.hid (HBL.out.trans (hb5.mono HBL.out.size))
  obtain ⟨p0, p1, -, -⟩ := HN0.out.on hb5 HN0.out.lt
  generalize (W4.alloc (.cells #[.int .i64 1] 3)).drewN m5 = w6 at *
  clear hb5 HI n0 n1 nl
  have nl := World.block_lt_of_cell? w6 _ p0
  go_wp2
  go_ret
  exact ⟨rfl, HBL.out⟩
end Go.Proofs.YtceejjgmepaonaaGreatDoor.Br
/- Contracts of the document's Add and Sum of layer 1 (cut out of XNumRef: a later stage's reference that adds takes this text). -/
namespace Go.Proofs.YtceejjgmepaonaaGreatDoor
open Go.RowKit Go.ChangeShapes NumPure
theorem refAdd_any (a b : Int) (ha : -9223372036854775808 ≤ a ∧ a ≤ 9223372036854775807) (hb : -9223372036854775808 ≤ b ∧ b ≤ 9223372036854775807) (w : World) :
    Calls Tryz.prog 63 #[.int .i64 a, .int .i64 b] w fun e w' => e = .returned (.agg #[.int .i64 (cut (a + b)), .bool (fitsB (a + b))]) ∧ Below w.heap.size w w' := by
  obtain ⟨ha1, ha2⟩ := ha
  obtain ⟨hb1, hb2⟩ := hb
  by_cases h : -9223372036854775808 ≤ a + b ∧ a + b ≤ 9223372036854775807
  · have e1 := Lib.hid (cut_in h)
    have e2 := Lib.hid ((fits_iff _).2 h)
    obtain ⟨h1, h2⟩ := h
    by_cases h0 : 0 ≤ b
    · go_enter Tryz.func63, Tryz.ntmps63
      go_wp2
      refine bodyPost_ret (v := .agg #[.int .i64 (a + b), .bool true]) (by simp [results, Tryz.results63, go_sem]) rfl ⟨agg_ib e1.out.symm e2.out.symm, (Below.refl _ _).alloc (Nat.le_refl _) _⟩
    · go_enter Tryz.func63, Tryz.ntmps63
      go_wp2
      refine bodyPost_ret (v := .agg #[.int .i64 (a + b), .bool true]) (by simp [results, Tryz.results63, go_sem]) rfl ⟨agg_ib e1.out.symm e2.out.symm, (Below.refl _ _).alloc (Nat.le_refl _) _⟩
  · have e1 := Lib.hid (cut_out h)
    have e2 := Lib.hid ((fits_not _).2 h)
    by_cases h0 : 0 ≤ b
    · have h3 := wrap_add_up a b ha2 h0 hb2 (by omega)
      clear h
      go_enter Tryz.func63, Tryz.ntmps63
      go_wp2
      refine bodyPost_ret (v := .agg #[.int .i64 0, .bool false]) (by simp [results, Tryz.results63, go_sem]) rfl ⟨agg_ib e1.out.symm e2.out.symm, (Below.refl _ _).alloc (Nat.le_refl _) _⟩
    · have h3 := wrap_add_down a b ha1 (by omega) hb1 (by omega)
      clear h
      go_enter Tryz.func63, Tryz.ntmps63
      go_wp2
      refine bodyPost_ret (v := .agg #[.int .i64 0, .bool false]) (by simp [results, Tryz.results63, go_sem]) rfl ⟨agg_ib e1.out.symm e2.out.symm, (Below.refl _ _).alloc (Nat.le_refl _) _⟩
/-- The document's sum, number by number. -/
def RefAt (M : Nat) (w : World) (p : Int × Bool) : Prop :=
  w.cell? ⟨M, 0, none⟩ = some (.int .i64 p.1) ∧ w.cell? ⟨M, 1, none⟩ = some (.bool p.2) ∧ w.frozen? ⟨M, 0, none⟩ = false ∧ w.frozen? ⟨M, 1, none⟩ = false
theorem RefAt.on {M : Nat} {w w' : World} {p : Int × Bool} (h : RefAt M w p) (hb : Below (M + 1) w w') : RefAt M w' p := by
  obtain ⟨h0, h1, f0, f1⟩ := h
  exact ⟨(hb.cell (by simp)).trans h0, (hb.cell (by simp)).trans h1, (hb.frozen (by simp)).trans f0, (hb.frozen (by simp)).trans f1⟩
theorem RefAt.set {N : Nat} {w : World} {p : Int × Bool} (h : RefAt N w p) (q : Int × Bool) : RefAt N ((w.setCell ⟨N, 0, none⟩ (.int .i64 q.1)).setCell ⟨N, 1, none⟩ (.bool q.2)) q := by
  obtain ⟨h0, h1, f0, f1⟩ := h
  have h1' : (w.setCell ⟨N, 0, none⟩ (.int .i64 q.1)).cell? ⟨N, 1, none⟩ = some (.bool p.2) := (World.cell?_setCell_other w ⟨N, 0, none⟩ ⟨N, 1, none⟩ _ (by simp)).trans h1
  refine ⟨(World.cell?_setCell_other _ ⟨N, 1, none⟩ ⟨N, 0, none⟩ _ (by simp)).trans (World.cell?_setCell_same _ _ _ h0), World.cell?_setCell_same _ _ _ h1', ?_, ?_⟩
  · simpa using f0
  · simpa using f1
theorem RefAt.lt {M : Nat} {w : World} {p : Int × Bool} (h : RefAt M w p) : M < w.heap.size := by
  exact World.block_lt_of_cell? w _ h.1
def RefRel (N : Nat) (w : World) (l : List Int) (k : Nat) (wr : World) : Prop := k ≤ l.length ∧ Below (N + 1) w wr ∧ RefAt (N + 1) wr (sumS (l.take k))
end Go.Proofs.YtceejjgmepaonaaGreatDoor
/- The document's Check, Normal, Cmp, Checks, Find, Total, Same. -/
namespace Go.Proofs.YtceejjgmepaonaaGreatDoor
open Go.RowKit Go.ChangeShapes EdPure NumPure
theorem refCheck_any (n : Int) (e : Ed) (w : World) :
    Calls Tryz.prog 47 #[.int .i64 n, encE e] w fun r w' => r = .returned (.int .i64 (chkE n e)) ∧ Below w.heap.size w w' := by
  obtain ⟨u, v, x⟩ := e
  unfold encE
  by_cases h1 : u < 0
  · have HE : Hid (chkE n (u, v, x) = 4) := Lib.hid (by unfold chkE; rw [if_neg (by simp only; omega)])
    go_enter Tryz.func47, Tryz.ntmps47
    go_wp2
    go_ret
    exact ⟨ret_i HE.out.symm, (Below.refl _ _).alloc (Nat.le_refl _) _⟩
  by_cases h2 : u < n
  · by_cases h3 : v < 0
    · have HE : Hid (chkE n (u, v, x) = 4) := Lib.hid (by unfold chkE; rw [if_neg (by simp only; omega)])
      go_enter Tryz.func47, Tryz.ntmps47
      go_wp2
      go_ret
      exact ⟨ret_i HE.out.symm, (Below.refl _ _).alloc (Nat.le_refl _) _⟩
    by_cases h4 : v < n
    · by_cases h5 : x < 0
      · have HE : Hid (chkE n (u, v, x) = 5) := Lib.hid (by unfold chkE; rw [if_pos (by simp only; omega), if_neg (by simp only; omega)])
        go_enter Tryz.func47, Tryz.ntmps47
        go_wp2
        go_ret
        exact ⟨ret_i HE.out.symm, (Below.refl _ _).alloc (Nat.le_refl _) _⟩
      by_cases h6 : x ≤ 2147483648
      · have HE : Hid (chkE n (u, v, x) = 0) := Lib.hid (by unfold chkE; rw [if_pos (by simp only; omega), if_pos (by simp only; omega)])
        go_enter Tryz.func47, Tryz.ntmps47
        go_wp2
        go_ret
        exact ⟨ret_i HE.out.symm, (Below.refl _ _).alloc (Nat.le_refl _) _⟩
      · have HE : Hid (chkE n (u, v, x) = 5) := Lib.hid (by unfold chkE; rw [if_pos (by simp only; omega), if_neg (by simp only; omega)])
        go_enter Tryz.func47, Tryz.ntmps47
        go_wp2
        go_ret
        exact ⟨ret_i HE.out.symm, (Below.refl _ _).alloc (Nat.le_refl _) _⟩
    · have HE : Hid (chkE n (u, v, x) = 4) := Lib.hid (by unfold chkE; rw [if_neg (by simp only; omega)])
      go_enter Tryz.func47, Tryz.ntmps47
      go_wp2
      go_ret
      exact ⟨ret_i HE.out.symm, (Below.refl _ _).alloc (Nat.le_refl _) _⟩
  · have HE : Hid (chkE n (u, v, x) = 4) := Lib.hid (by unfold chkE; rw [if_neg (by simp only; omega)])
    go_enter Tryz.func47, Tryz.ntmps47
    go_wp2
    go_ret
    exact ⟨ret_i HE.out.symm, (Below.refl _ _).alloc (Nat.le_refl _) _⟩
theorem refNormal_any (e : Ed) (w : World) :
    Calls Tryz.prog 49 #[encE e] w fun r w' => r = .returned (encE (normE e)) ∧ Below w.heap.size w w' := by
  obtain ⟨u, v, x⟩ := e
  unfold encE
  by_cases h : v < u
  · have HE : Hid ((v, u, x) = normE (u, v, x)) := Lib.hid (by unfold normE; rw [if_pos h])
    go_enter Tryz.func49, Tryz.ntmps49
    go_wp2
    refine bodyPost_ret (v := .agg #[.int .i64 v, .int .i64 u, .int .i64 x]) (by simp [results, Tryz.results49, go_sem]) rfl ⟨agg_e HE.out, ?_⟩
    exact below_two
  · have HE : Hid ((u, v, x) = normE (u, v, x)) := Lib.hid (by unfold normE; rw [if_neg h])
    go_enter Tryz.func49, Tryz.ntmps49
    go_wp2
    refine bodyPost_ret (v := .agg #[.int .i64 u, .int .i64 v, .int .i64 x]) (by simp [results, Tryz.results49, go_sem]) rfl ⟨agg_e HE.out, ?_⟩
    exact below_two
theorem agg_iiE {a b c d : Int} (h1 : a = b) (h2 : c = d) : Ending.returned (.agg #[.int .i64 a, .int .i64 c]) = .returned (.agg #[.int .i64 b, .int .i64 d]) := by rw [h1, h2]
theorem refChecks_any (n : Int) (a : Option Addr) (c : Nat) (l : List Ed) (hl : l.length ≤ 1048576) (w : World) (hR : ReadsE w.heap.size w a l) :
    Calls Tryz.prog 25 #[.int .i64 n, .slice a l.length c] w fun e w' => e = .returned (.agg #[.int .i64 (chkL n l 0).1, .int .i64 (chkL n l 0).2]) ∧ Below w.heap.size w w' := by
  have HR := Lib.hid hR
  have H2 : Hid (TwoAt w.heap.size (w.alloc (.cells #[.int .i64 0, .int .i64 0] 75)) (.int .i64 0) (.int .i64 0)) := Lib.hid (TwoAt.new _ _ _ _)
  have HB0 : Hid (Below w.heap.size w (w.alloc (.cells #[.int .i64 0, .int .i64 0] 75))) := Lib.hid ((Below.refl _ _).alloc (Nat.le_refl _) _)
  clear hR
  go_enter Tryz.func25, Tryz.ntmps25
  go_wp2
  generalize w.alloc (.cells #[.int .i64 0, .int .i64 0] 75) = w0 at *
  go_loopw [5] (fun i wr => ∃ k : Nat, i = .int .i64 k ∧ Hid (ChkRel n w l k wr ∧ TwoAt w.heap.size wr (.int .i64 0) (.int .i64 0))) (fun i _ => l.length - (intOf i).toNat)
  case atStart => exact ⟨0, rfl, Lib.hid ⟨⟨Nat.zero_le _, HB0.out, fun j _ h => by omega⟩, H2.out⟩⟩
  case round =>
    obtain ⟨k, rfl, HK⟩ := hrel
    clear H2 HB0
    have i0 : (0 : Int) ≤ (k : Int) := by omega
    by_cases hlt : k < l.length
    · have i1 : (k : Int) < (l.length : Int) := by omega
      obtain ⟨u, v, x, he⟩ : ∃ u v x, l[k] = (u, v, x) := ⟨_, _, _, rfl⟩
      obtain ⟨b, off, rfl, hbw, hbr, c0, c1, c2⟩ := HR.out.cells hlt HK.out.1.2.1 he
      have HC := Lib.hid (refCheck_any n (u, v, x) wr)
      unfold encE at HC
      have HE := Lib.hid he
      clear he
      by_cases h0 : chkE n (u, v, x) = 0
      · have H0 := Lib.hid h0
        rw [h0] at HC
        clear h0
        go_wp2_with (first | (go_at_call 47; refine HC.out.mono ?_; rintro e w1 ⟨rfl, hb⟩; have H1 := Lib.hid hb; clear hb))
        go_roundw
        case rel => exact ⟨k + 1, by go_num, Lib.hid ⟨HK.out.1.next hlt (by rw [HE.out]; exact H0.out) (HK.out.1.2.1.trans (H1.out.mono HK.out.1.2.1.size)), HK.out.2.on H1.out HK.out.2.lt⟩⟩
        case measure => (simp [intOf]; omega)
      · have HX : Hid (chkL n l 0 = (chkE n (u, v, x), (k : Int))) := Lib.hid (by
          rw [chk_hit n l 0 k hlt (by rw [HE.out]; exact h0) HK.out.1.2.2, HE.out, Nat.zero_add])
        have t : (chkE n (u, v, x) != 0) = true := by simpa using h0
        clear h0
        generalize chkE n (u, v, x) = r at *
        go_wp2_with fail
        refine HC.out.mono ?_
        rintro e w1 ⟨rfl, hb⟩
        have hA := (HK.out.2.on hb HK.out.2.lt)
        obtain ⟨d0, d1, g0, g1⟩ := hA
        have H1 := Lib.hid hb
        clear hb
        go_wp2
        refine bodyPost_ret (v := .agg #[.int .i64 r, .int .i64 k]) (by simp [results, Tryz.results25, go_sem, d0, d1]) rfl ⟨agg_iiE (by rw [HX.out]) (by rw [HX.out]), ?_⟩
        exact ((HK.out.1.2.1.trans (H1.out.mono HK.out.1.2.1.size)).setCell (Nat.le_refl _) _).setCell (Nat.le_refl _) _
    · have hk : k = l.length := by have := HK.out.1.1; omega
      subst hk
      have HX : Hid (chkL n l 0 = (0, 0)) := Lib.hid (chk_miss n l 0 fun j hj => HK.out.1.2.2 j hj hj)
      obtain ⟨d0, d1, g0, g1⟩ := HK.out.2
      go_wp2
      refine bodyPost_ret (v := .agg #[.int .i64 0, .int .i64 0]) (by simp [results, Tryz.results25, go_sem, d0, d1]) rfl ⟨agg_iiE (by rw [HX.out]) (by rw [HX.out]), ?_⟩
      exact (HK.out.1.2.1.setCell (Nat.le_refl _) _).setCell (Nat.le_refl _) _
end Go.Proofs.YtceejjgmepaonaaGreatDoor
/- The document's Total, Same, Cmp. -/
namespace Go.Proofs.YtceejjgmepaonaaGreatDoor
open Go.RowKit Go.ChangeShapes EdPure NumPure
theorem reads_of {w : World} {a : Option Addr} {l : List Int} (h : ReadsL (encInt .i64) w.heap.size w a l) : Reads w.heap.size w a l := by
  rcases h with h | ⟨b, off, h1, h2, h3⟩
  · exact Or.inl h
  · refine Or.inr ⟨b, off, h1, h2, fun i hi => ?_⟩
    rw [h3 i hi]
    unfold encInt
    simp [List.getD_eq_getElem?_getD, List.getElem?_eq_getElem hi]
theorem wts_rng {l : List Ed} (h : InL l) : Rng (wts l) := by
  intro i hi
  rw [wts_len] at hi
  rw [wts_at hi]
  exact (h.at hi).2.2
theorem wts_take {l : List Ed} {k : Nat} (hk : k < l.length) : wts (l.take (k + 1)) = wts (l.take k) ++ [l[k].2.2] := by
  rw [List.take_succ_eq_append_getElem hk]; unfold wts; rw [List.map_append]; rfl
theorem info_int64 : ∃ i, (Tryz.prog.info? 2) = some i ∧ i.zero = some (.int .i64 0) ∧ i.size = 1 ∧ i.bytes = 8 := info_of (by kernel_rfl)
def RTotRel (w0 : World) (l : List Ed) (k : Nat) (v : Value) (wr : World) : Prop := k ≤ l.length ∧ GrowRel (encInt .i64) 2 w0 (wts (l.take k)) v wr
@[go_sem] theorem eq_edge (a b c a' b' c' : Int) (w : World) : (Op.equalIn 10000 51 (.agg #[.int .i64 a, .int .i64 b, .int .i64 c]) (.agg #[.int .i64 a', .int .i64 b', .int .i64 c'])).run Tryz.prog w = .ok (a == a' && (b == b' && c == c')) w := by
  have u3 := Tryz.underlying3
  have a3 := Tryz.isAgg3
  have z3 := Tryz.sizeOf3
  have u2 := Tryz.underlying2
  have a2 := Tryz.isAgg2
  have z2 := Tryz.sizeOf2
  have hS : Tryz.prog.underlying 51 = some (.struct (Tryz.prog.fieldsOf 51)) := by kernel_rfl
  have hp : Tryz.prog.stoodInHeld 51 = false := by kernel_rfl
  rw [show (10000 : Nat) = 9999 + 1 from rfl, run_equalIn_agg w 9999 51 _ _ hS hp]
  simp only [Program.fieldsOf, Tryz.underlying51]
  go_simp
  by_cases h1 : a = a' <;> by_cases h2 : b = b' <;> by_cases h3 : c = c' <;> simp [h1, h2, h3]
def SameRel (w : World) (l m : List Ed) (k : Nat) (wr : World) : Prop := k ≤ l.length ∧ Below w.heap.size w wr ∧ ∀ j (h1 : j < l.length) (h2 : j < m.length), j < k → l[j] = m[j]
end Go.Proofs.YtceejjgmepaonaaGreatDoor
/- The document's Weight of a graph. -/
namespace Go.Proofs.YtceejjgmepaonaaGreatDoor
open Go.RowKit Go.ChangeShapes EdPure NtPure NumPure
theorem wOf_hit {M : List Ed} {p q : Int} : ∀ {k : Nat} (hk : k < M.length), isAt p q M[k] → (∀ j (hj : j < M.length), j < k → ¬ isAt p q M[j]) → wOf M p q = M[k].2.2 := by
  induction M with
  | nil => intro k hk; simp at hk
  | cons x r ih =>
    intro k hk h1 h2
    cases k with
    | zero => simp only [wOf, List.getElem_cons_zero]; exact if_pos h1
    | succ k =>
      have h0 : ¬ isAt p q x := h2 0 (by simp) (by omega)
      simp only [wOf]
      rw [if_neg h0, ih (by simpa using hk) h1 (fun j hj hjk => h2 (j + 1) (by simpa using hj) (by omega))]
      rfl
theorem wOf_miss {M : List Ed} {p q : Int} (h : ∀ j (hj : j < M.length), ¬ isAt p q M[j]) : wOf M p q = 0 := by
  induction M with
  | nil => rfl
  | cons x r ih =>
    have h0 : ¬ isAt p q x := h 0 (by simp)
    simp only [wOf]
    rw [if_neg h0]
    exact ih fun j hj => h (j + 1) (by simpa using hj)
/-- A graph of the document's, as a value and as it lies in a variable. -/
def RnAt (N : Nat) (n : Int) (a : Option Addr) (c : Nat) (M : List Ed) (w : World) : Prop := TwoAt N w (.int .i64 n) (.slice a M.length c) ∧ ReadsE w.heap.size w a M
theorem RnAt.keep {N : Nat} {n : Int} {a : Option Addr} {c : Nat} {M : List Ed} {w w' : World} (h : RnAt N n a c M w) (hb : Below w.heap.size w w') : RnAt N n a c M w' := ⟨h.1.on hb h.1.lt, h.2.over hb (Nat.le_refl _)⟩
theorem RnAt.box {n : Int} {a : Option Addr} {c : Nat} {M : List Ed} {w : World} (h : ReadsE w.heap.size w a M) : RnAt w.heap.size n a c M (w.alloc (.cells #[.int .i64 n, .slice a M.length c] 34)) :=
  ⟨TwoAt.new _ _ _ _, h.over ((Below.refl _ _).alloc (Nat.le_refl _) _) (Nat.le_refl _)⟩
def noneTo (M : List Ed) (p q : Int) (k : Nat) : Prop := k ≤ M.length ∧ ∀ j (hj : j < M.length), j < k → ¬ isAt p q M[j]
theorem noneTo.next {M : List Ed} {p q : Int} {k : Nat} (h : noneTo M p q k) (hk : k < M.length) (h0 : ¬ isAt p q M[k]) : noneTo M p q (k + 1) :=
  ⟨hk, fun j hj hjk => by
    by_cases e : j = k
    · subst e; exact h0
    · exact h.2 j hj (by omega)⟩
end Go.Proofs.YtceejjgmepaonaaGreatDoor
/- Contracts of countSplit and Split. -/
namespace Go.Proofs.YtceejjgmepaonaaGreatDoor
open Go.RowKit Go.ChangeShapes EdPure NumPure
theorem ret_n2 {a b : Int} {c d : Bool} (h1 : a = b) (h2 : c = d) : Ending.returned (.tuple #[.int .i64 a, .bool c]) = .returned (.tuple #[.int .i64 b, .bool d]) := by rw [h1, h2]
theorem three_same {b : Nat} {w w' : World} {u v x : Value} (h : ThreeAt b w u v x) (hk : w'.heap[b]? = w.heap[b]?) : ThreeAt b w' u v x := by
  obtain ⟨h0, h1, h2, f0, f1, f2⟩ := h
  exact ⟨(World.cell?_of_block hk).trans h0, (World.cell?_of_block hk).trans h1, (World.cell?_of_block hk).trans h2, (World.frozen?_of_block hk).trans f0, (World.frozen?_of_block hk).trans f1, (World.frozen?_of_block hk).trans f2⟩
def cntR (l : List Ed) : Nat := if splitB l = true then cntL l else 0
def CntRel (w : World) (l : List Ed) (k : Nat) (wr : World) : Prop := k ≤ l.length ∧ Below w.heap.size w wr ∧ (∀ j (hj : j < l.length), j < k → 0 ≤ l[j].2.2) ∧ cntL (l.take k) ≤ 1048576
theorem CntRel.next {w wr w' : World} {l : List Ed} {k : Nat} (h : CntRel w l k wr) (hk : k < l.length) (h0 : 0 ≤ l[k].2.2) (hb : Below w.heap.size w w') (hc : cntL (l.take (k + 1)) ≤ 1048576) : CntRel w l (k + 1) w' := by
  refine ⟨hk, hb, fun j hj hlt => ?_, hc⟩
  by_cases e : j = k
  · subst e; exact h0
  · exact h.2.2.1 j hj (by omega)
theorem owns_other {w : World} {B : Nat} {e : TypeId} {size n : Nat} {v : Value} {xs : List Value} (h : w.ownsRow B e size v n xs) {p : Addr} (hp : v.ownBlock ≠ some p.block) (u : Value) : (w.setCell p u).ownsRow B e size v n xs := by
  obtain ⟨h1, h2 | ⟨g, cap, cur, rfl, h3, h4, h5⟩⟩ := h
  · exact ⟨h1, Or.inl h2⟩
  · have hne : g ≠ p.block := fun e => hp (by simp [Value.ownBlock, e])
    exact ⟨h1, Or.inr ⟨g, cap, cur, rfl, h3, (by
      unfold World.setCell
      simp only [Array.getElem?_modify]
      rw [if_neg (fun e => hne e.symm)]
      exact h4), h5⟩⟩
/-- While an edge is cut: what was gathered, the variable's cells. -/
def SplSt (w1 : World) (B : Nat) (G : List Ed) (s : Value) (u v x : Int) (wr : World) : Prop :=
  GrowE w1 G s wr ∧ ThreeAt B wr (.int .i64 u) (.int .i64 v) (.int .i64 x) ∧ s.ownBlock ≠ some B ∧ w1.heap.size ≤ B
section
variable {w1 wr w' : World} {B : Nat} {G : List Ed} {s s' : Value} {u v x : Int}
theorem SplSt.start (h : GrowE w1 G s wr) (T : TypeId) : SplSt w1 wr.heap.size G s u v x (wr.alloc (.cells #[.int .i64 u, .int .i64 v, .int .i64 x] T)) :=
  ⟨h.on ((Below.refl _ _).alloc (Nat.le_refl _) _), ThreeAt.new _ _ _ _ _, fun e => by have := (h.2.lt _ e).2; omega, h.1.size⟩
theorem SplSt.step (h : SplSt w1 B G s u v x wr) (e : Ed) {o : Obj} (h1 : w'.ownsRow w1.heap.size 51 3 s' (G.length + 1) (flatE G ++ cellE e)) (hg : (wr.alloc o).grownBy w' s.ownBlock) (hl : s'.ownBlock = s.ownBlock ∨ s'.ownBlock = some (wr.alloc o).heap.size) :
    SplSt w1 B (G ++ [e]) s' u v x w' := by
  obtain ⟨g1, g2, g3, g4⟩ := h
  have hB := g2.lt
  have g2' := g2.on ((Below.refl wr.heap.size wr).alloc (Nat.le_refl _) o) hB
  refine ⟨g1.step e h1 hg, three_same g2' (hg.block B (by simp; omega) (fun e => g3 e.symm)), ?_, g4⟩
  rcases hl with hl | hl
  · rw [hl]; exact g3
  · rw [hl]
    intro e
    have := Option.some.inj e
    simp at this
    omega
theorem SplSt.store (h : SplSt w1 B G s u v x wr) (y : Int) : SplSt w1 B G s u v y (wr.setCell ⟨B, 2, none⟩ (.int .i64 y)) := by
  obtain ⟨g1, ⟨c0, c1, c2, f0, f1, f2⟩, g3, g4⟩ := h
  refine ⟨⟨g1.1.setCell g4 _, owns_other g1.2 (p := ⟨B, 2, none⟩) g3 _⟩, ⟨?_, ?_, World.cell?_setCell_same _ _ _ c2, by simpa using f0, by simpa using f1, by simpa using f2⟩, g3, g4⟩
  · exact (World.cell?_setCell_other wr ⟨B, 2, none⟩ ⟨B, 0, none⟩ _ (by simp)).trans c0
  · exact (World.cell?_setCell_other wr ⟨B, 2, none⟩ ⟨B, 1, none⟩ _ (by simp)).trans c1
end
end Go.Proofs.YtceejjgmepaonaaGreatDoor
