/- The graph that the program reads of any text, or the first line that can't be, and why, is what the document says. Conditions: none: every text (of one of more than 3000 bytes the law asks only that the program reads graphs at all). -/
import Derived.Test.YtflnmkgpmjefhaaPk24
import Derived.Test.YtflnmkgpmjefhaaPk36
import Derived.Test.YtflnmkgpmjefhaaChecked
import Derived.Test.YtflnmkgpmjefhaaRows
import Derived.WalkKit
import Derived.ProofKit
import Derived.OpenShut
import Derived.ShutString
import Derived.ChangeOld
import Derived.Below
import Derived.Carry
namespace Go.Proofs.Ytflnmkgpmjefhaa.greadReads
open Go.ChangeShapes Go.WideShapes Go.ChangeAt Go.RowKit EdPure GrPure NtPure Gr
open Go.ChangeMaps (open_string shut_string)
/-- What the document's Read told stands, and the program's graph. -/
def ReadSt (w : World) (X : Nat) (q : Option Addr) (c N : Nat) (M : List Ed) (g : Nat) (W : World) : Prop :=
  Below w.heap.size w W ∧ QuadAt X W (.int .i64 (N : Int)) (.slice q M.length c) (.int .i64 0) (.int .i64 0) ∧ NetAt (some ⟨g, 0, none⟩) N M W ∧ ReadsE W.heap.size W q M
theorem ReadSt.keep {w W W' : World} {X : Nat} {q : Option Addr} {c N : Nat} {M : List Ed} {g : Nat} (h : ReadSt w X q c N M g W) (hb : Below W.heap.size W W') : ReadSt w X q c N M g W' :=
  ⟨h.1.trans (hb.mono h.1.size), h.2.1.on hb h.2.1.lt, h.2.2.1.over hb, h.2.2.2.over hb (Nat.le_refl _)⟩
def BadSt (w : World) (X : Nat) (z a : Int) (W : World) : Prop :=
  Below w.heap.size w W ∧ QuadAt X W (.int .i64 0) (.slice none 0 0) (.int .i64 z) (.int .i64 a)
theorem BadSt.keep {w W W' : World} {X : Nat} {z a : Int} (h : BadSt w X z a W) (hb : Below W.heap.size W W') : BadSt w X z a W' :=
  ⟨h.1.trans (hb.mono h.1.size), h.2.on hb h.2.lt⟩
set_option maxRecDepth 100000 in
set_option maxHeartbeats 2000000 in
theorem walk_list (s : ByteArray) (hs : s.size ≤ maxLen) (w : World) :
    Calls Try.prog 4 #[.string s] w fun e w' => e = .returned (.bool true) ∧ Below w.heap.size w w' := by
  have HA := Lib.hid (fun w => awake_any w)
  by_cases h3 : 3000 < s.size
  · have hm : s.size ≤ 9223372036854775807 := by unfold maxLen at hs; omega
    go_enter Try.func4, Try.ntmps4
    go_wp2_with fail
    refine (HA.out _).mono ?_
    rintro e w1 ⟨rfl, hb1⟩
    have HB := Lib.hid hb1
    clear hb1
    go_wp2
    go_ret
    exact ⟨rfl, HB.out⟩
  · have HP := Lib.hid (fun w => progRead_any s (by omega) w)
    have HR := Lib.hid (fun w => refRead_any s (by omega) w)
    go_enter Try.func4, Try.ntmps4
    go_wp2_with fail
    refine (HP.out w).mono ?_
    rintro e w1 ⟨hb1, p, N, M, rfl, hn, ⟨-, hM, -⟩, ⟨hz, rfl, rfl, rfl⟩ | ⟨⟨hz, ha⟩, ⟨g, rfl⟩, hN, hm⟩⟩
    · have HB1 := Lib.hid hb1
      have HZ := Lib.hid hz
      clear hb1 hn hM HP
      go_wp2_with fail
      refine (HR.out w1).mono ?_
      rintro e w2 ⟨hb2, ho⟩
      obtain ⟨-, rfl⟩ := ho.resolve_right (fun h => hz h.1)
      clear ho
      have HB2 := Lib.hid (HB1.out.trans (hb2.mono HB1.out.size))
      clear hb2 HR HB1 hz
      generalize (readR s.data.toList).1 = z at *
      generalize (readR s.data.toList).2.1 = a at *
      have t1 : (z != 0) = true := by simpa using HZ.out
      have t2 : (z == 0) = false := by simpa using HZ.out
      have HT : Hid (BadSt w w2.heap.size z a (w2.alloc (.cells #[.int .i64 0, .slice none 0 0, .int .i64 z, .int .i64 a] 44))) := Lib.hid ⟨HB2.out.trans (((Below.refl _ _).alloc (Nat.le_refl _) _).mono HB2.out.size), QuadAt.new _ _ _ _ _ _⟩
      go_upto_region 5 with fail
      generalize w2.alloc (.cells #[.int .i64 0, .slice none 0 0, .int .i64 z, .int .i64 a] 44) = W0 at *
      generalize w2.heap.size = X at *
      obtain ⟨⟨c0, c1, c2, c3⟩, -⟩ := HT.out.2.cells
      have xl := HT.out.2.lt
      have b1 : (z != z) = false := bne_self_eq_false _
      have b2 : (a != a) = false := bne_self_eq_false _
      go_upto_region 7 with fail
      clear c0 c1 c2 c3 xl HZ b1 b2
      have HE1 : Hid (BadSt w X z a W0.drew) := Lib.hid (HT.out.keep ((Below.refl _ _).drew))
      refine wp_region_held_drew (S := fun _ => True) (by kernel_rfl) trivial (fun hHeld => ?_)
      refine wpAnyH_take (i := 0) (v := ?vb0) rfl (by kernel_rfl) (by kernel_rfl) (by kernel_rfl) (fun _ _ _ h => h) (Or.inl ⟨by kernel_rfl, fun w' hSw => ?hyb0⟩) (by assumption) ?restb0
      case hyb0 => ((try dsimp only at hSw); go_simp; (try with_reducible rfl))
      simp only [Act.put]
      refine wpAnyH_take (i := 1) (v := ?vb1) rfl (by kernel_rfl) (by kernel_rfl) (by kernel_rfl) (fun _ _ _ h => h) (Or.inl ⟨by kernel_rfl, fun w' hSw => ?hyb1⟩) (by assumption) ?restb1
      case hyb1 => ((try dsimp only at hSw); go_simp; (try with_reducible rfl))
      simp only [Act.put]
      refine wpAnyH_take (i := 2) (v := ?vb2) rfl (by kernel_rfl) (by kernel_rfl) (by kernel_rfl) (fun _ _ _ h => h) (Or.inl ⟨by kernel_rfl, fun w' hSw => ?hyb2⟩) (by assumption) ?restb2
      case hyb2 => ((try dsimp only at hSw); go_simp; (try with_reducible rfl))
      simp only [Act.put]
      refine wpAnyH_take (i := 3) (v := undef) rfl (by kernel_rfl) (by kernel_rfl) (by kernel_rfl) (fun _ _ _ h => h) (Or.inr ⟨by kernel_rfl, rfl⟩) (by assumption) ?_
      simp only [Act.put]
      refine wpAnyH_take (i := 4) (v := undef) rfl (by kernel_rfl) (by kernel_rfl) (by kernel_rfl) (fun _ _ _ h => h) (Or.inr ⟨by kernel_rfl, rfl⟩) (by assumption) ?_
      simp only [Act.put]
      refine wpAnyH_take (i := 5) (v := undef) rfl (by kernel_rfl) (by kernel_rfl) (by kernel_rfl) (fun _ _ _ h => h) (Or.inr ⟨by kernel_rfl, rfl⟩) (by assumption) ?_
      simp only [Act.put]
      refine wpAnyH_take (i := 6) (v := undef) rfl (by kernel_rfl) (by kernel_rfl) (by kernel_rfl) (fun _ _ _ h => h) (Or.inr ⟨by kernel_rfl, rfl⟩) (by assumption) ?_
      simp only [Act.put]
      refine wpAnyH_take (i := 7) (v := undef) rfl (by kernel_rfl) (by kernel_rfl) (by kernel_rfl) (fun _ _ _ h => h) (Or.inr ⟨by kernel_rfl, rfl⟩) (by assumption) ?_
      simp only [Act.put]
      refine wpAnyH_take (i := 8) (v := undef) rfl (by kernel_rfl) (by kernel_rfl) (by kernel_rfl) (fun _ _ _ h => h) (Or.inr ⟨by kernel_rfl, rfl⟩) (by assumption) ?_
      simp only [Act.put]
      refine wpAnyH_take (i := 9) (v := undef) rfl (by kernel_rfl) (by kernel_rfl) (by kernel_rfl) (fun _ _ _ h => h) (Or.inr ⟨by kernel_rfl, rfl⟩) (by assumption) ?_
      simp only [Act.put]
      refine wpAnyH_take (i := 10) (v := undef) rfl (by kernel_rfl) (by kernel_rfl) (by kernel_rfl) (fun _ _ _ h => h) (Or.inr ⟨by kernel_rfl, rfl⟩) (by assumption) ?_
      simp only [Act.put]
      refine wpAnyH_take (i := 11) (v := undef) rfl (by kernel_rfl) (by kernel_rfl) (by kernel_rfl) (fun _ _ _ h => h) (Or.inr ⟨by kernel_rfl, rfl⟩) (by assumption) ?_
      simp only [Act.put]
      refine wpAnyH_take (i := 12) (v := undef) rfl (by kernel_rfl) (by kernel_rfl) (by kernel_rfl) (fun _ _ _ h => h) (Or.inr ⟨by kernel_rfl, rfl⟩) (by assumption) ?_
      simp only [Act.put]
      refine wpAnyH_take (i := 13) (v := undef) rfl (by kernel_rfl) (by kernel_rfl) (by kernel_rfl) (fun _ _ _ h => h) (Or.inr ⟨by kernel_rfl, rfl⟩) (by assumption) ?_
      simp only [Act.put]
      refine wpAnyH_take (i := 14) (v := undef) rfl (by kernel_rfl) (by kernel_rfl) (by kernel_rfl) (fun _ _ _ h => h) (Or.inr ⟨by kernel_rfl, rfl⟩) (by assumption) ?_
      simp only [Act.put]
      refine wpAnyH_take (i := 15) (v := undef) rfl (by kernel_rfl) (by kernel_rfl) (by kernel_rfl) (fun _ _ _ h => h) (Or.inr ⟨by kernel_rfl, rfl⟩) (by assumption) ?_
      simp only [Act.put]
      refine wpAnyH_take (i := 16) (v := undef) rfl (by kernel_rfl) (by kernel_rfl) (by kernel_rfl) (fun _ _ _ h => h) (Or.inr ⟨by kernel_rfl, rfl⟩) (by assumption) ?_
      simp only [Act.put]
      refine wpAnyH_take (i := 17) (v := ?vb17) rfl (by kernel_rfl) (by kernel_rfl) (by kernel_rfl) (fun _ _ _ h => h) (Or.inl ⟨by kernel_rfl, fun w' hSw => ?hyb17⟩) (by assumption) ?restb17
      case hyb17 => ((try dsimp only at hSw); go_simp; (try with_reducible rfl))
      simp only [Act.put]
      refine wpAnyH_take (i := 18) (v := ?vb18) rfl (by kernel_rfl) (by kernel_rfl) (by kernel_rfl) (fun _ _ _ h => h) (Or.inl ⟨by kernel_rfl, fun w' hSw => ?hyb18⟩) (by assumption) ?restb18
      case hyb18 => ((try dsimp only at hSw); go_simp; (try with_reducible rfl))
      simp only [Act.put]
      refine wpAnyH_ready (rs := [19]) (by kernel_rfl) (by simp) ?_
      refine AllReadyH.cons rfl (fun K hK => ?_) AllReadyH.nil
      go_simp
      refine (HA.out _).mono ?_
      rintro e y1 ⟨rfl, hb1⟩
      have HE2 := Lib.hid (HE1.out.keep hb1)
      clear hb1 HE1
      go_wp2_with fail
      refine hK.out _ _ ?hSb19 (fun hHeld => ?restb19)
      case hSb19 => exact trivial
      clear hK K
      refine wpAnyH_take (i := 20) (v := ?vb20) rfl (by kernel_rfl) (by kernel_rfl) (by kernel_rfl) (fun _ _ _ h => h) (Or.inl ⟨by kernel_rfl, fun w' hSw => ?hyb20⟩) (by assumption) ?restb20
      case hyb20 => ((try dsimp only at hSw); go_simp; (try with_reducible rfl))
      simp only [Act.put]
      refine wpAnyH_ready (rs := [21]) (by kernel_rfl) (by simp) ?_
      refine AllReadyH.cons rfl (fun K hK => ?_) AllReadyH.nil
      go_simp
      refine hK.out _ _ (by assumption) (fun hHeld => ?_)
      clear hK K
      refine wpAnyH_done (by kernel_rfl) ?_ _
      go_wp2
      go_ret
      exact ⟨rfl, HE2.out.1⟩
    · have HB1 := Lib.hid hb1
      have HM := Lib.hid hM
      have HN := Lib.hid hn
      have HZ := Lib.hid (And.intro hz (And.intro hN hm))
      rw [hz, ha]
      clear hb1 hn hM HP hz ha hN hm
      go_wp2_with fail
      refine (HR.out w1).mono ?_
      rintro e w2 ⟨hb2, ⟨hz2, -⟩ | ⟨-, M2, q, c, hM2, rfl, hr⟩⟩
      · exact absurd HZ.out.1 hz2
      obtain rfl : M = M2 := Option.some.inj (HZ.out.2.2.symm.trans hM2)
      rw [HZ.out.2.1]
      have HB2 := Lib.hid (HB1.out.trans (hb2.mono HB1.out.size))
      have HN2 := Lib.hid (HN.out.over hb2)
      have HR2 := Lib.hid hr
      clear hb2 HR HB1 HN hr hM2 HZ
      have hbA : Below w2.heap.size w2 (w2.alloc (.cells #[.int .i64 (N : Int), .slice q M.length c, .int .i64 0, .int .i64 0] 44)) := (Below.refl _ _).alloc (Nat.le_refl _) _
      have HT : Hid (ReadSt w w2.heap.size q c N M g (w2.alloc (.cells #[.int .i64 (N : Int), .slice q M.length c, .int .i64 0, .int .i64 0] 44))) := Lib.hid ⟨HB2.out.trans (hbA.mono HB2.out.size), QuadAt.new _ _ _ _ _ _, HN2.out.over hbA, HR2.out.over hbA (Nat.le_refl _)⟩
      clear hbA HB2 HN2 HR2
      go_upto_region 5 with fail
      generalize w2.alloc (.cells #[.int .i64 (N : Int), .slice q M.length c, .int .i64 0, .int .i64 0] 44) = W0 at *
      generalize w2.heap.size = X at *
      obtain ⟨⟨c0, c1, c2, c3⟩, -⟩ := HT.out.2.1.cells
      have xl := HT.out.2.1.lt
      have b1 : ((N : Int) == (N : Int)) = true := beq_self_eq_true _
      go_upto_region 7 with fail
      clear c0 c1 c2 c3 xl
      have HE1 : Hid (ReadSt w X q c N M g W0.drew) := Lib.hid (HT.out.keep ((Below.refl _ _).drew))
      refine wp_region_held_drew (S := fun W' => W'.cell? ⟨X, 0, none⟩ = some (.int .i64 (N : Int)) ∧ W'.cell? ⟨X, 1, none⟩ = some (.slice q M.length c)) (by kernel_rfl) ⟨HE1.out.2.1.cells.1.1, HE1.out.2.1.cells.1.2.1⟩ (fun hHeld => ?_)
      refine wpAnyH_take (i := 0) (v := ?vg0) rfl (by kernel_rfl) (by kernel_rfl) (by kernel_rfl) (fun _ _ _ h => h) (Or.inl ⟨by kernel_rfl, fun w' hSw => ?hyg0⟩) (by assumption) ?restg0
      case hyg0 => ((try dsimp only at hSw); go_simp; (try with_reducible rfl))
      simp only [Act.put]
      refine wpAnyH_take (i := 1) (v := ?vg1) rfl (by kernel_rfl) (by kernel_rfl) (by kernel_rfl) (fun _ _ _ h => h) (Or.inl ⟨by kernel_rfl, fun w' hSw => ?hyg1⟩) (by assumption) ?restg1
      case hyg1 => ((try dsimp only at hSw); go_simp; (try with_reducible rfl))
      simp only [Act.put]
      refine wpAnyH_take (i := 2) (v := ?vg2) rfl (by kernel_rfl) (by kernel_rfl) (by kernel_rfl) (fun _ _ _ h => h) (Or.inl ⟨by kernel_rfl, fun w' hSw => ?hyg2⟩) (by assumption) ?restg2
      case hyg2 => ((try dsimp only at hSw); go_simp; (try with_reducible rfl))
      simp only [Act.put]
      refine wpAnyH_take (i := 3) (v := ?vg3) rfl (by kernel_rfl) (by kernel_rfl) (by kernel_rfl) (fun _ _ _ h => h) (Or.inl ⟨by kernel_rfl, fun w' hSw => ?hyg3⟩) (by assumption) ?restg3
      case hyg3 => ((try dsimp only at hSw); go_simp; (try with_reducible rfl))
      simp only [Act.put]
      refine wpAnyH_take (i := 5) (v := ?vg5) rfl (by kernel_rfl) (by kernel_rfl) (by kernel_rfl) (fun _ _ _ h => h) (Or.inl ⟨by kernel_rfl, fun w' hSw => ?hyg5⟩) (by assumption) ?restg5
      case hyg5 => ((try dsimp only at hSw); go_simp; (try with_reducible rfl))
      simp only [Act.put]
      refine wpAnyH_take (i := 6) (v := ?vg6) rfl (by kernel_rfl) (by kernel_rfl) (by kernel_rfl) (fun _ _ _ h => h) (Or.inl ⟨by kernel_rfl, fun w' hSw => ?hyg6⟩) (by assumption) ?restg6
      case hyg6 => ((try dsimp only at hSw); go_simp; (try with_reducible rfl))
      simp only [Act.put]
      refine wpAnyH_take (i := 7) (v := ?vg7) rfl (by kernel_rfl) (by kernel_rfl) (by kernel_rfl) (fun _ _ _ h => h) (Or.inl ⟨by kernel_rfl, fun w' hSw => ?hyg7⟩) (by assumption) ?restg7
      case hyg7 => ((try dsimp only at hSw); go_simp; (try with_reducible rfl))
      simp only [Act.put]
      refine wpAnyH_ready (rs := [4]) (by kernel_rfl) (by simp) ?_
      refine AllReadyH.cons rfl (fun K hK => ?_) AllReadyH.nil
      go_simp
      refine (num_any (some ⟨g, 0, none⟩) N M _ HE1.out.2.2.1).mono ?_
      rintro e y1 ⟨rfl, hb1⟩
      have HE2 := Lib.hid (HE1.out.keep hb1)
      clear hb1 HE1
      go_wp2_with fail
      refine hK.out _ _ ?hSg4 (fun hHeld => ?restg4)
      case hSg4 => exact ⟨HE2.out.2.1.cells.1.1, HE2.out.2.1.cells.1.2.1⟩
      clear hK K
      refine wpAnyH_take (i := 8) (v := ?vg8) rfl (by kernel_rfl) (by kernel_rfl) (by kernel_rfl) (fun _ _ _ h => h) (Or.inl ⟨by kernel_rfl, fun w' hSw => ?hyg8⟩) (by assumption) ?restg8
      case hyg8 => ((try dsimp only at hSw); go_simp; (try with_reducible rfl))
      simp only [Act.put]
      refine wpAnyH_take (i := 9) (v := ?vg9) rfl (by kernel_rfl) (by kernel_rfl) (by kernel_rfl) (fun _ _ _ h => h) (Or.inl ⟨by kernel_rfl, fun w' hSw => ?hyg9⟩) (by assumption) ?restg9
      case hyg9 => ((try dsimp only at hSw); go_simp; (try with_reducible rfl))
      simp only [Act.put]
      refine wpAnyH_take (i := 10) (v := ?vg10) rfl (by kernel_rfl) (by kernel_rfl) (by kernel_rfl) (fun _ _ _ h => h) (Or.inl ⟨by kernel_rfl, fun w' hSw => ?hyg10⟩) (by assumption) ?restg10
      case hyg10 => ((try dsimp only at hSw); go_simp; (try with_reducible rfl))
      simp only [Act.put]
      refine wpAnyH_take (i := 12) (v := ?vg12) rfl (by kernel_rfl) (by kernel_rfl) (by kernel_rfl) (fun _ _ _ h => h) (Or.inl ⟨by kernel_rfl, fun w' hSw => ?hyg12⟩) (by assumption) ?restg12
      case hyg12 => ((try dsimp only at hSw); go_simp; (try with_reducible rfl))
      simp only [Act.put]
      refine wpAnyH_take (i := 13) (v := ?vg13) rfl (by kernel_rfl) (by kernel_rfl) (by kernel_rfl) (fun _ _ _ h => h) (Or.inl ⟨by kernel_rfl, fun w' hSw => ?hyg13⟩) (by assumption) ?restg13
      case hyg13 => ((try dsimp only at hSw); go_simp; (try with_reducible rfl))
      simp only [Act.put]
      refine wpAnyH_take (i := 14) (v := ?vg14) rfl (by kernel_rfl) (by kernel_rfl) (by kernel_rfl) (fun _ _ _ h => h) (Or.inl ⟨by kernel_rfl, fun w' hSw => ?hyg14⟩) (by assumption) ?restg14
      case hyg14 => ((try dsimp only at hSw); go_simp; (try with_reducible rfl))
      simp only [Act.put]
      refine wpAnyH_ready (rs := [11]) (by kernel_rfl) (by simp) ?_
      refine AllReadyH.cons rfl (fun K hK => ?_) AllReadyH.nil
      go_simp
      refine (edges_any (some ⟨g, 0, none⟩) N M HM.out _ HE2.out.2.2.1).mono ?_
      rintro e y2 ⟨hb2, q7, c7, rfl, hr7⟩
      have HE3 := Lib.hid (HE2.out.keep hb2)
      have HR7 := Lib.hid hr7
      clear hr7
      clear hb2 HE2
      go_wp2_with fail
      refine hK.out _ _ ?hSg11 (fun hHeld => ?restg11)
      case hSg11 => exact ⟨HE3.out.2.1.cells.1.1, HE3.out.2.1.cells.1.2.1⟩
      clear hK K
      refine wpAnyH_ready (rs := [15]) (by kernel_rfl) (by simp) ?_
      refine AllReadyH.cons rfl (fun K hK => ?_) AllReadyH.nil
      go_simp
      refine (same_any q7 q c7 c M M HM.out HM.out _ HR7.out HE3.out.2.2.2).mono ?_
      rw [decide_eq_true (rfl : M = M)]
      rintro e y3 ⟨rfl, hb3⟩
      have HE4 := Lib.hid (HE3.out.keep hb3)
      clear HR7
      clear hb3 HE3
      go_wp2_with fail
      refine hK.out _ _ ?hSg15 (fun hHeld => ?restg15)
      case hSg15 => exact ⟨HE4.out.2.1.cells.1.1, HE4.out.2.1.cells.1.2.1⟩
      clear hK K
      refine wpAnyH_take (i := 16) (v := ?vg16) rfl (by kernel_rfl) (by kernel_rfl) (by kernel_rfl) (fun _ _ _ h => h) (Or.inl ⟨by kernel_rfl, fun w' hSw => ?hyg16⟩) (by assumption) ?restg16
      case hyg16 => ((try dsimp only at hSw); go_simp; (try with_reducible rfl))
      simp only [Act.put]
      refine wpAnyH_take (i := 17) (v := ?vg17) rfl (by kernel_rfl) (by kernel_rfl) (by kernel_rfl) (fun _ _ _ h => h) (Or.inl ⟨by kernel_rfl, fun w' hSw => ?hyg17⟩) (by assumption) ?restg17
      case hyg17 => ((try dsimp only at hSw); go_simp; (try with_reducible rfl))
      simp only [Act.put]
      refine wpAnyH_take (i := 18) (v := ?vg18) rfl (by kernel_rfl) (by kernel_rfl) (by kernel_rfl) (fun _ _ _ h => h) (Or.inl ⟨by kernel_rfl, fun w' hSw => ?hyg18⟩) (by assumption) ?restg18
      case hyg18 => ((try dsimp only at hSw); go_simp; (try with_reducible rfl))
      simp only [Act.put]
      refine wpAnyH_ready (rs := [19]) (by kernel_rfl) (by simp) ?_
      refine AllReadyH.cons rfl (fun K hK => ?_) AllReadyH.nil
      go_simp
      refine (HA.out _).mono ?_
      rintro e y4 ⟨rfl, hb4⟩
      have HE5 := Lib.hid (HE4.out.keep hb4)
      clear hb4 HE4
      go_wp2_with fail
      refine hK.out _ _ ?hSg19 (fun hHeld => ?restg19)
      case hSg19 => exact ⟨HE5.out.2.1.cells.1.1, HE5.out.2.1.cells.1.2.1⟩
      clear hK K
      refine wpAnyH_take (i := 20) (v := ?vg20) rfl (by kernel_rfl) (by kernel_rfl) (by kernel_rfl) (fun _ _ _ h => h) (Or.inl ⟨by kernel_rfl, fun w' hSw => ?hyg20⟩) (by assumption) ?restg20
      case hyg20 => ((try dsimp only at hSw); go_simp; (try with_reducible rfl))
      simp only [Act.put]
      refine wpAnyH_ready (rs := [21]) (by kernel_rfl) (by simp) ?_
      refine AllReadyH.cons rfl (fun K hK => ?_) AllReadyH.nil
      go_simp
      refine hK.out _ _ (by assumption) (fun hHeld => ?_)
      clear hK K
      refine wpAnyH_done (by kernel_rfl) ?_ _
      go_wp2
      go_ret
      exact ⟨rfl, HE5.out.1⟩
theorem own : ownKnob Try.prog.godebug = none := by kernel_rfl
theorem laidOut : laidOutB Try.prog = true := by kernel_rfl
set_option maxRecDepth 100000 in
theorem lifted (os : Os) (started : os.Started) (H : Type) (enc : TypeId × Value → H) :
    ReturnsInHanded {} Try.checked os 4 .any (Rows.greadReadsSpec.pre6 enc Try.prog Try.f4 Rows.greadReadsRow.domain false) (Rows.greadReadsSpec.post enc Try.prog Try.f4 false true false false) := by
  refine returnsInHanded_of_change (C := Try.checked) own started (by kernel_rfl) Try.func4
    (ChangeSpec.witness6 (enc := enc) (C := Try.checked) false ⟨#[], #[.string ⟨#[]⟩], []⟩ 8 (by kernel_rfl) (by kernel_rfl) (by kernel_rfl) (by kernel_rfl)) ?_
  intro W base args ds gs before hval0 hW hcnd _
  have hval : ∀ (j : Nat) t v, Try.f4.params[j]? = some t → args[j]? = some v → Value.okWide Try.prog W .any base t v := hval0
  have hW' := hW
  obtain ⟨p, q, hA0, hV, rfl, hfz, hnd⟩ := hW
  have hA : DataW.TrodAll enc Try.prog W 0 (fun _ => true) true Try.f4.params.toList args.toList ds p := hA0
  rw [Try.params4] at hA hval
  obtain ⟨v0, vs0, d0, ds0, p0, q0, hargs, rfl, rfl, h0, r0⟩ := trodAll_cons hA
  obtain ⟨rfl, rfl, rfl⟩ := trodAll_nil r0
  obtain rfl : args = #[v0] := by cases args; simp_all
  obtain ⟨rfl, rfl⟩ := trodVars_none hV
  obtain ⟨a0, rfl, rfl, rfl, w0⟩ := open_string Try.underlying9 (hval 0 9 v0 rfl rfl) h0
  clear hA0 hval0
  simp only [List.append_nil] at hW'
  refine (walk_list a0 w0 W ).mono fun e W' ⟨he, bel⟩ => ?_
  subst he
  exact ⟨_, rfl, _, _, _, [], [], [], hW', trodAll_mk1 (shut_bool Try.underlying4 _), (trodAll_cons_mk (shut_string Try.underlying9 w0) trodAll_mk0), rfl, bel.frame _, fun h => by cases h⟩
theorem over : Rows.greadReadsRow.holds Try.pinned (OpenSpec.ofChange Rows.greadReadsSpec) :=
  OpenClaim.holds_of_wide 4 Try.f4 rfl rfl rfl rfl rfl rfl rfl ⟨rfl, rfl, rfl, rfl, rfl⟩ rfl rfl rfl rfl rfl (by kernel_rfl) Try.func4 (by kernel_rfl)
    (of_decide_eq_true (by kernel_rfl)) (by unfold Func.isWrapper; first | (rw [if_pos (by decide +kernel)]; kernel_rfl) | (rw [if_neg (by decide +kernel)]; exact ⟨rfl, rfl⟩))
    (fun os started H enc _ => lifted os started H enc)
/-- The statement. -/
theorem proved : Rows.GreadReadsSaid := over
#print axioms proved
end Go.Proofs.Ytflnmkgpmjefhaa.greadReads
