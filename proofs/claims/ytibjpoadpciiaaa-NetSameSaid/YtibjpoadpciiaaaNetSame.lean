/- Any two graphs are the same just if their vertices and merged edges are; of nil there is nothing. Conditions: none: every two numbers of vertices, every two slices of edges (of edges of which there is no graph New answers nil, and nil is the same as nil alone; of more than a hundred edges the law asks only that the program makes graphs at all). -/
import Derived.Test.YtibjpoadpciiaaaNtParts
import Derived.Test.YtibjpoadpciiaaaNtSame
import Derived.Test.YtibjpoadpciiaaaEdOpen
import Derived.Test.YtibjpoadpciiaaaPairV
import Derived.Test.YtibjpoadpciiaaaChecked
import Derived.Test.YtibjpoadpciiaaaRows
import Derived.ChangeSlices
import Derived.ProofKit
import Derived.OpenShut
import Derived.ChangeOld
import Derived.Below
import Derived.Carry
import Derived.Deep.RegionHeld3
import Derived.Deep.Cut
import Derived.Deep.CutRange
namespace Go.Proofs.Ytibjpoadpciiaaa.netSame
open Go.ChangeShapes Go.WideShapes Go.ChangeAt Go.RowKit EdPure NtPure NumPure
/-- What stays, beside what was made. -/
def BaseSt (W : World) (NB : Nat) (n0 n1 : Int) (a b : Option Addr) (l m : List Ed) (w : World) : Prop := Below W.heap.size W w ∧ TwoAt NB w (.int .i64 n0) (.int .i64 n1) ∧ ReadsE w.heap.size w a l ∧ ReadsE w.heap.size w b m
theorem BaseSt.keep {W w w' : World} {NB : Nat} {n0 n1 : Int} {a b : Option Addr} {l m : List Ed} (h : BaseSt W NB n0 n1 a b l m w) (hb : Below w.heap.size w w') : BaseSt W NB n0 n1 a b l m w' :=
  ⟨h.1.trans (hb.mono h.1.size), h.2.1.on hb h.2.1.lt, h.2.2.1.over hb (Nat.le_refl _), h.2.2.2.over hb (Nat.le_refl _)⟩
/-- Of nil there is nothing. -/
theorem edge0 (w : World) : Calls Try.prog 9 #[.pointer none, .int .i64 0] w fun e w' => e = .returned (.tuple #[.agg #[.int .i64 0, .int .i64 0, .int .i64 0], .bool false]) ∧ Below w.heap.size w w' := edge_any none 0 [] 0 w (NetAt.nil w)
theorem num0 (w : World) : Calls Try.prog 10 #[.pointer none] w fun e w' => e = .returned (.int .i64 0) ∧ Below w.heap.size w w' := num_any none 0 [] w (NetAt.nil w)
theorem cnt0 (w : World) : Calls Try.prog 11 #[.pointer none] w fun e w' => e = .returned (.int .i64 0) ∧ Below w.heap.size w w' := cnt_any none 0 [] w (NetAt.nil w)
theorem edges0 (w : World) : Calls Try.prog 13 #[.pointer none] w fun e w' => Below w.heap.size w w' ∧ ∃ q c, e = .returned (.slice q 0 c) := by
  refine (edges_any none 0 [] (by simp) w (NetAt.nil w)).mono ?_
  rintro e w' ⟨hb, q, c, rfl, -⟩
  exact ⟨hb, q, c, rfl⟩
theorem weight0 (w : World) : Calls Try.prog 14 #[.pointer none, .int .i64 0, .int .i64 1] w fun e w' => e = .returned (.int .i64 0) ∧ Below w.heap.size w w' := weight_any none 0 [] (GoodN.nil _) (by simp) 0 1 w (NetAt.nil w)
theorem degree0 (w : World) : Calls Try.prog 16 #[.pointer none, .int .i64 0] w fun e w' => e = .returned (.int .i64 0) ∧ Below w.heap.size w w' := degree_any none 0 [] 0 w (NetAt.nil w)
theorem near0 (w : World) : Calls Try.prog 19 #[.pointer none, .int .i64 0] w fun e w' => Below w.heap.size w w' ∧ ∃ q c, e = .returned (.slice q 0 c) := by
  refine (near_any none 0 [] (by simp) 0 w (NetAt.nil w)).mono ?_
  rintro e w' ⟨hb, q, c, rfl, -⟩
  exact ⟨hb, q, c, rfl⟩
theorem total0 (w : World) : Calls Try.prog 21 #[.pointer none] w fun e w' => e = .returned (.int .i64 0) ∧ Below w.heap.size w w' := totalN_any none 0 (by omega) [] (GoodN.nil _) (by simp) w (NetAt.nil w)
theorem same0 (w : World) : Calls Try.prog 23 #[.pointer none, .pointer none] w fun e w' => e = .returned (.bool true) ∧ Below w.heap.size w w' := sameN_any none none 0 0 [] [] (by simp) (by simp) (by omega) (by omega) w (NetAt.nil w) (NetAt.nil w)
def EnSt (W : World) (p r : Option Addr) (N N' : Nat) (M M' : List Ed) (X Y : Nat) (x y : Int) (q q2 : Option Addr) (c d : Nat) (A B : List Ed) (e1 e2 f1 f2 : Int) (w : World) : Prop :=
  Below W.heap.size W w ∧ NetAt p N M w ∧ NetAt r N' M' w ∧ (QuadAt X w (.int .i64 x) (.slice q A.length c) (.int .i64 e1) (.int .i64 e2) ∧ QuadAt Y w (.int .i64 y) (.slice q2 B.length d) (.int .i64 f1) (.int .i64 f2)) ∧ ReadsE w.heap.size w q A ∧ ReadsE w.heap.size w q2 B
theorem EnSt.keep {W w w' : World} {p r : Option Addr} {N N' : Nat} {M M' : List Ed} {X Y : Nat} {x y : Int} {q q2 : Option Addr} {c d : Nat} {A B : List Ed} {e1 e2 f1 f2 : Int} (h : EnSt W p r N N' M M' X Y x y q q2 c d A B e1 e2 f1 f2 w) (hb : Below w.heap.size w w') : EnSt W p r N N' M M' X Y x y q q2 c d A B e1 e2 f1 f2 w' :=
  ⟨h.1.trans (hb.mono h.1.size), h.2.1.over hb, h.2.2.1.over hb, ⟨h.2.2.2.1.1.on hb h.2.2.2.1.1.lt, h.2.2.2.1.2.on hb h.2.2.2.1.2.lt⟩, h.2.2.2.2.1.over hb (Nat.le_refl _), h.2.2.2.2.2.over hb (Nat.le_refl _)⟩
set_option maxRecDepth 100000 in
set_option maxHeartbeats 4000000 in
theorem walk_list (n : Int × Int) (a : Option Addr) (ca : Nat) (l : List Ed) (b : Option Addr) (cb : Nat) (m : List Ed) (W : World) (_hn : (-9223372036854775808 ≤ n.1 ∧ n.1 ≤ 9223372036854775807) ∧ -9223372036854775808 ≤ n.2 ∧ n.2 ≤ 9223372036854775807) (h1 : EdIn W a l) (_h2 : l.length ≤ maxLen) (h3 : EdIn W b m) (_h4 : m.length ≤ maxLen) :
    Calls Try.prog 4 #[.agg #[.int .i64 n.1, .int .i64 n.2], .slice a l.length ca, .slice b m.length cb] W fun r w' => r = .returned (.bool true) ∧ Below W.heap.size W w' := by
  obtain ⟨n0, n1⟩ := n
  simp only
  have HB0 : Hid (Below W.heap.size W (W.alloc (.cells #[.int .i64 n0, .int .i64 n1] 23))) := Lib.hid ((Below.refl _ _).alloc (Nat.le_refl _) _)
  by_cases hlen : l.length ≤ 100
  · by_cases hlen2 : m.length ≤ 100
    · have i1 : ¬ (l.length : Int) > 100 := by omega
      have i2 : ¬ (m.length : Int) > 100 := by omega
      have HI := Lib.hid (And.intro h1.1 h3.1)
      have HS0 : Hid (BaseSt W W.heap.size n0 n1 a b l m (W.alloc (.cells #[.int .i64 n0, .int .i64 n1] 23))) := Lib.hid ⟨HB0.out, TwoAt.new _ _ _ _, h1.2.over HB0.out (Nat.le_refl _), h3.2.over HB0.out (Nat.le_refl _)⟩
      clear h1 h3 HB0
      go_enter Try.func4, Try.ntmps4
      go_upto_region 3 with fail
      generalize W.alloc (.cells #[.int .i64 n0, .int .i64 n1] 23) = w0 at *
      generalize W.heap.size = NB at *
      obtain ⟨c0, c1, -, -⟩ := HS0.out.2.1
      have cl := HS0.out.2.1.lt
      go_wp2_with fail
      refine (newU_any n0 a ca l HI.out.1 w0 HS0.out.2.2.1).mono ?_
      rintro e w1 ⟨hb1, p, N, M, rfl, hp1, hg, hk⟩
      have HS1 := Lib.hid (HS0.out.keep hb1)
      have HP1 := Lib.hid hp1
      have HK := Lib.hid (And.intro hg hk)
      clear hb1 hp1 hg hk HS0 c0 c1 cl
      obtain ⟨c0, c1, -, -⟩ := HS1.out.2.1
      have cl := HS1.out.2.1.lt
      go_wp2_with fail
      refine (newU_any n1 b cb m HI.out.2 w1 HS1.out.2.2.2).mono ?_
      rintro e w2 ⟨hb2, r, N', M', rfl, hp2, hg, hk⟩
      have HS2 := Lib.hid (HS1.out.keep hb2)
      have HP2 := Lib.hid (HP1.out.over hb2)
      have HR2 := Lib.hid hp2
      have HK' := Lib.hid (And.intro hg hk)
      clear hb2 hp2 hg hk HS1 HP1 c0 c1 cl
      go_upto_region 5 with fail
      go_cut [13, 14] from 44 to 51 (fun vx vy wx => ∃ (X Y : Nat) (x y : Int) (q q2 : Option Addr) (c d : Nat) (A B : List Ed), vx = .pointer (some ⟨X, 0, none⟩) ∧ vy = .pointer (some ⟨Y, 0, none⟩) ∧
        Hid (BothSt w2 X Y (q, A) (q2, B) (.int .i64 x) (.slice q A.length c) (.int .i64 (errN n0 l).1) (.int .i64 (errN n0 l).2) (.int .i64 y) (.slice q2 B.length d) (.int .i64 (errN n1 m).1) (.int .i64 (errN n1 m).2) wx ∧ RefK n0 l x A ∧ RefK n1 m y B))
      case first =>
        have HP0 : Hid (PartSt w2 none none none none w2.drew) := Lib.hid (PartSt.start ⟨rfl, rfl, rfl, Nat.le_refl _, fun _ _ => rfl⟩)
        have hkeep : Hid (∀ W', Below w2.heap.size w2 W' → W'.cell? ⟨NB, 0, none⟩ = some (.int .i64 n0) ∧ W'.cell? ⟨NB, 1, none⟩ = some (.int .i64 n1)) := Lib.hid fun W' hb => ⟨(hb.cell (p := ⟨NB, 0, none⟩) HS2.out.2.1.lt).trans HS2.out.2.1.1, (hb.cell (p := ⟨NB, 1, none⟩) HS2.out.2.1.lt).trans HS2.out.2.1.2.1⟩
        refine wp_region_held_drew (S := fun W' => W'.cell? ⟨NB, 0, none⟩ = some (.int .i64 n0) ∧ W'.cell? ⟨NB, 1, none⟩ = some (.int .i64 n1)) (by kernel_rfl) (hkeep.out _ HP0.out.1) (fun hHeld => ?_)
        refine wpAnyH_take (i := 0) (v := ?vt0) rfl (by kernel_rfl) (by kernel_rfl) (by kernel_rfl) (fun _ _ _ h => h) (Or.inl ⟨by kernel_rfl, fun w' hSw => ?hyt0⟩) (by assumption) ?restt0
        case hyt0 => ((try dsimp only at hSw); go_simp; (try with_reducible rfl))
        simp only [Act.put]
        refine wpAnyH_take (i := 1) (v := ?vt1) rfl (by kernel_rfl) (by kernel_rfl) (by kernel_rfl) (fun _ _ _ h => h) (Or.inl ⟨by kernel_rfl, fun w' hSw => ?hyt1⟩) (by assumption) ?restt1
        case hyt1 => ((try dsimp only at hSw); go_simp; (try with_reducible rfl))
        simp only [Act.put]
        refine wpAnyH_take (i := 2) (v := ?vt2) rfl (by kernel_rfl) (by kernel_rfl) (by kernel_rfl) (fun _ _ _ h => h) (Or.inl ⟨by kernel_rfl, fun w' hSw => ?hyt2⟩) (by assumption) ?restt2
        case hyt2 => ((try dsimp only at hSw); go_simp; (try with_reducible rfl))
        simp only [Act.put]
        refine wpAnyH_take (i := 4) (v := ?vt4) rfl (by kernel_rfl) (by kernel_rfl) (by kernel_rfl) (fun _ _ _ h => h) (Or.inl ⟨by kernel_rfl, fun w' hSw => ?hyt4⟩) (by assumption) ?restt4
        case hyt4 => ((try dsimp only at hSw); go_simp; (try with_reducible rfl))
        simp only [Act.put]
        refine wpAnyH_take (i := 5) (v := ?vt5) rfl (by kernel_rfl) (by kernel_rfl) (by kernel_rfl) (fun _ _ _ h => h) (Or.inl ⟨by kernel_rfl, fun w' hSw => ?hyt5⟩) (by assumption) ?restt5
        case hyt5 => ((try dsimp only at hSw); go_simp; (try with_reducible rfl))
        simp only [Act.put]
        refine wpAnyH_take (i := 6) (v := ?vt6) rfl (by kernel_rfl) (by kernel_rfl) (by kernel_rfl) (fun _ _ _ h => h) (Or.inl ⟨by kernel_rfl, fun w' hSw => ?hyt6⟩) (by assumption) ?restt6
        case hyt6 => ((try dsimp only at hSw); go_simp; (try with_reducible rfl))
        simp only [Act.put]
        generalize w2.drew = V0 at *
        clear hHeld
        refine wpAnyH_ready (rs := [3, 8, 9]) (by kernel_rfl) (by simp) ?_
        refine AllReadyH.cons rfl (fun K hK => ?_) (AllReadyH.cons rfl (fun K hK => ?_) (AllReadyH.cons rfl (fun K hK => ?_) AllReadyH.nil))
        · go_simp
          refine (refU_any n0 a ca l (by omega) HI.out.1 _ (HS2.out.2.2.1.over HP0.out.1 (Nat.le_refl _))).mono ?_
          rintro e V1 ⟨hb, x, q, c, A, rfl, hr, hkk⟩
          have HP1 := Lib.hid (HP0.out.call3 hb hr)
          have HA := Lib.hid hkk
          clear hb hr hkk HP0
          go_wp2_with fail
          refine hK.out _ _ (hkeep.out _ HP1.out.1) (fun hHeld => ?_)
          clear hK K hHeld
          refine wpAnyH_ready (rs := [7, 8, 9]) (by kernel_rfl) (by simp) ?_
          refine AllReadyH.cons rfl (fun K hK => ?_) (AllReadyH.cons rfl (fun K hK => ?_) (AllReadyH.cons rfl (fun K hK => ?_) AllReadyH.nil))
          · go_simp
            refine (refU_any n1 b cb m (by omega) HI.out.2 _ (HS2.out.2.2.2.over HP1.out.1 (Nat.le_refl _))).mono ?_
            rintro e V2 ⟨hb, y, q2, d, B, rfl, hr, hkk⟩
            have HP2 := Lib.hid (HP1.out.call7 hb hr)
            have HB := Lib.hid hkk
            clear hb hr hkk HP1
            go_wp2_with fail
            refine hK.out _ _ (hkeep.out _ HP2.out.1) (fun hHeld => ?_)
            clear hK K hHeld
            refine wpAnyH_ready (rs := [8, 9]) (by kernel_rfl) (by simp) ?_
            refine AllReadyH.cons rfl (fun K hK => ?_) (AllReadyH.cons rfl (fun K hK => ?_) AllReadyH.nil)
            · go_simp
              have HP3 := Lib.hid HP2.out.alloc8
              refine hK.out _ _ (hkeep.out _ HP3.out.1) (fun hHeld => ?_)
              clear hK K hHeld HP2
              generalize V2.alloc (.cells #[.int .i64 0, .slice none 0 0, .int .i64 0, .int .i64 0] 32) = V3 at *
              generalize V2.heap.size = X at *
              refine wpAnyH_ready (rs := [9]) (by kernel_rfl) (by simp) ?_
              refine AllReadyH.cons rfl (fun K hK => ?_) AllReadyH.nil
              go_simp
              have HP4 := Lib.hid HP3.out.alloc9
              refine hK.out _ _ (hkeep.out _ HP4.out.1) (fun hHeld => ?_)
              clear hK K hHeld HP3
              generalize V3.alloc (.cells #[.int .i64 0, .slice none 0 0, .int .i64 0, .int .i64 0] 32) = V4 at *
              generalize V3.heap.size = Y at *
              obtain ⟨⟨z0, z1, z2, z3⟩, f0, f1, f2, f3⟩ := (HP4.out.2.1 X rfl).2.1.cells
              have hx := (HP4.out.2.1 X rfl).2.1.lt
              have HM := Lib.hid (HP4.out.lay (.int .i64 x) (.slice q A.length c) (.int .i64 (errN n0 l).1) (.int .i64 (errN n0 l).2))
              refine wpAnyH_ready (rs := [10]) (by kernel_rfl) (by simp) ?_
              refine AllReadyH.cons rfl (fun K hK => ?_) AllReadyH.nil
              go_simp
              refine hK.out _ _ (hkeep.out _ HM.out.1) (fun hHeld => ?_)
              clear hK K hHeld HP4 z0 z1 z2 z3 f0 f1 f2 f3 hx
              obtain ⟨V5, hV5⟩ : ∃ V5, V5 = lay4 V4 X (.int .i64 x) (.slice q A.length c) (.int .i64 (errN n0 l).1) (.int .i64 (errN n0 l).2) := ⟨_, rfl⟩
              rw [← hV5] at HM
              unfold lay4 at hV5
              rw [← hV5]
              clear hV5
              obtain ⟨⟨z0, z1, z2, z3⟩, f0, f1, f2, f3⟩ := HM.out.2.2.1.2.1.cells
              have hy := HM.out.2.2.1.2.1.lt
              have HL := Lib.hid (HM.out.lay (.int .i64 y) (.slice q2 B.length d) (.int .i64 (errN n1 m).1) (.int .i64 (errN n1 m).2))
              refine wpAnyH_ready (rs := [11]) (by kernel_rfl) (by simp) ?_
              refine AllReadyH.cons rfl (fun K hK => ?_) AllReadyH.nil
              go_simp
              refine hK.out _ _ (hkeep.out _ HL.out.1) (fun hHeld => ?_)
              clear hK K hHeld HM z0 z1 z2 z3 f0 f1 f2 f3 hy
              obtain ⟨V6, hV6⟩ : ∃ V6, V6 = lay4 V5 Y (.int .i64 y) (.slice q2 B.length d) (.int .i64 (errN n1 m).1) (.int .i64 (errN n1 m).2) := ⟨_, rfl⟩
              rw [← hV6] at HL
              unfold lay4 at hV6
              rw [← hV6]
              clear hV6
              refine wpAnyH_done (by kernel_rfl) ?_ _
              go_wp2_with fail; go_meet; case rel => exact ⟨X, Y, x, y, q, q2, c, d, A, B, rfl, rfl, Lib.hid ⟨HL.out, HA.out, HB.out⟩⟩
            · go_simp
              have HP3 := Lib.hid HP2.out.alloc9
              refine hK.out _ _ (hkeep.out _ HP3.out.1) (fun hHeld => ?_)
              clear hK K hHeld HP2
              generalize V2.alloc (.cells #[.int .i64 0, .slice none 0 0, .int .i64 0, .int .i64 0] 32) = V3 at *
              generalize V2.heap.size = Y at *
              refine wpAnyH_ready (rs := [8]) (by kernel_rfl) (by simp) ?_
              refine AllReadyH.cons rfl (fun K hK => ?_) AllReadyH.nil
              go_simp
              have HP4 := Lib.hid HP3.out.alloc8
              refine hK.out _ _ (hkeep.out _ HP4.out.1) (fun hHeld => ?_)
              clear hK K hHeld HP3
              generalize V3.alloc (.cells #[.int .i64 0, .slice none 0 0, .int .i64 0, .int .i64 0] 32) = V4 at *
              generalize V3.heap.size = X at *
              obtain ⟨⟨z0, z1, z2, z3⟩, f0, f1, f2, f3⟩ := (HP4.out.2.1 X rfl).2.1.cells
              have hx := (HP4.out.2.1 X rfl).2.1.lt
              have HM := Lib.hid (HP4.out.lay (.int .i64 x) (.slice q A.length c) (.int .i64 (errN n0 l).1) (.int .i64 (errN n0 l).2))
              refine wpAnyH_ready (rs := [10]) (by kernel_rfl) (by simp) ?_
              refine AllReadyH.cons rfl (fun K hK => ?_) AllReadyH.nil
              go_simp
              refine hK.out _ _ (hkeep.out _ HM.out.1) (fun hHeld => ?_)
              clear hK K hHeld HP4 z0 z1 z2 z3 f0 f1 f2 f3 hx
              obtain ⟨V5, hV5⟩ : ∃ V5, V5 = lay4 V4 X (.int .i64 x) (.slice q A.length c) (.int .i64 (errN n0 l).1) (.int .i64 (errN n0 l).2) := ⟨_, rfl⟩
              rw [← hV5] at HM
              unfold lay4 at hV5
              rw [← hV5]
              clear hV5
              obtain ⟨⟨z0, z1, z2, z3⟩, f0, f1, f2, f3⟩ := HM.out.2.2.1.2.1.cells
              have hy := HM.out.2.2.1.2.1.lt
              have HL := Lib.hid (HM.out.lay (.int .i64 y) (.slice q2 B.length d) (.int .i64 (errN n1 m).1) (.int .i64 (errN n1 m).2))
              refine wpAnyH_ready (rs := [11]) (by kernel_rfl) (by simp) ?_
              refine AllReadyH.cons rfl (fun K hK => ?_) AllReadyH.nil
              go_simp
              refine hK.out _ _ (hkeep.out _ HL.out.1) (fun hHeld => ?_)
              clear hK K hHeld HM z0 z1 z2 z3 f0 f1 f2 f3 hy
              obtain ⟨V6, hV6⟩ : ∃ V6, V6 = lay4 V5 Y (.int .i64 y) (.slice q2 B.length d) (.int .i64 (errN n1 m).1) (.int .i64 (errN n1 m).2) := ⟨_, rfl⟩
              rw [← hV6] at HL
              unfold lay4 at hV6
              rw [← hV6]
              clear hV6
              refine wpAnyH_done (by kernel_rfl) ?_ _
              go_wp2_with fail; go_meet; case rel => exact ⟨X, Y, x, y, q, q2, c, d, A, B, rfl, rfl, Lib.hid ⟨HL.out, HA.out, HB.out⟩⟩
          · go_simp
            have HP2 := Lib.hid HP1.out.alloc8
            refine hK.out _ _ (hkeep.out _ HP2.out.1) (fun hHeld => ?_)
            clear hK K hHeld HP1
            generalize V1.alloc (.cells #[.int .i64 0, .slice none 0 0, .int .i64 0, .int .i64 0] 32) = V2 at *
            generalize V1.heap.size = X at *
            refine wpAnyH_ready (rs := [7, 9]) (by kernel_rfl) (by simp) ?_
            refine AllReadyH.cons rfl (fun K hK => ?_) (AllReadyH.cons rfl (fun K hK => ?_) AllReadyH.nil)
            · go_simp
              refine (refU_any n1 b cb m (by omega) HI.out.2 _ (HS2.out.2.2.2.over HP2.out.1 (Nat.le_refl _))).mono ?_
              rintro e V3 ⟨hb, y, q2, d, B, rfl, hr, hkk⟩
              have HP3 := Lib.hid (HP2.out.call7 hb hr)
              have HB := Lib.hid hkk
              clear hb hr hkk HP2
              go_wp2_with fail
              refine hK.out _ _ (hkeep.out _ HP3.out.1) (fun hHeld => ?_)
              clear hK K hHeld
              refine wpAnyH_ready (rs := [9]) (by kernel_rfl) (by simp) ?_
              refine AllReadyH.cons rfl (fun K hK => ?_) AllReadyH.nil
              go_simp
              have HP4 := Lib.hid HP3.out.alloc9
              refine hK.out _ _ (hkeep.out _ HP4.out.1) (fun hHeld => ?_)
              clear hK K hHeld HP3
              generalize V3.alloc (.cells #[.int .i64 0, .slice none 0 0, .int .i64 0, .int .i64 0] 32) = V4 at *
              generalize V3.heap.size = Y at *
              obtain ⟨⟨z0, z1, z2, z3⟩, f0, f1, f2, f3⟩ := (HP4.out.2.1 X rfl).2.1.cells
              have hx := (HP4.out.2.1 X rfl).2.1.lt
              have HM := Lib.hid (HP4.out.lay (.int .i64 x) (.slice q A.length c) (.int .i64 (errN n0 l).1) (.int .i64 (errN n0 l).2))
              refine wpAnyH_ready (rs := [10]) (by kernel_rfl) (by simp) ?_
              refine AllReadyH.cons rfl (fun K hK => ?_) AllReadyH.nil
              go_simp
              refine hK.out _ _ (hkeep.out _ HM.out.1) (fun hHeld => ?_)
              clear hK K hHeld HP4 z0 z1 z2 z3 f0 f1 f2 f3 hx
              obtain ⟨V5, hV5⟩ : ∃ V5, V5 = lay4 V4 X (.int .i64 x) (.slice q A.length c) (.int .i64 (errN n0 l).1) (.int .i64 (errN n0 l).2) := ⟨_, rfl⟩
              rw [← hV5] at HM
              unfold lay4 at hV5
              rw [← hV5]
              clear hV5
              obtain ⟨⟨z0, z1, z2, z3⟩, f0, f1, f2, f3⟩ := HM.out.2.2.1.2.1.cells
              have hy := HM.out.2.2.1.2.1.lt
              have HL := Lib.hid (HM.out.lay (.int .i64 y) (.slice q2 B.length d) (.int .i64 (errN n1 m).1) (.int .i64 (errN n1 m).2))
              refine wpAnyH_ready (rs := [11]) (by kernel_rfl) (by simp) ?_
              refine AllReadyH.cons rfl (fun K hK => ?_) AllReadyH.nil
              go_simp
              refine hK.out _ _ (hkeep.out _ HL.out.1) (fun hHeld => ?_)
              clear hK K hHeld HM z0 z1 z2 z3 f0 f1 f2 f3 hy
              obtain ⟨V6, hV6⟩ : ∃ V6, V6 = lay4 V5 Y (.int .i64 y) (.slice q2 B.length d) (.int .i64 (errN n1 m).1) (.int .i64 (errN n1 m).2) := ⟨_, rfl⟩
              rw [← hV6] at HL
              unfold lay4 at hV6
              rw [← hV6]
              clear hV6
              refine wpAnyH_done (by kernel_rfl) ?_ _
              go_wp2_with fail; go_meet; case rel => exact ⟨X, Y, x, y, q, q2, c, d, A, B, rfl, rfl, Lib.hid ⟨HL.out, HA.out, HB.out⟩⟩
            · go_simp
              have HP3 := Lib.hid HP2.out.alloc9
              refine hK.out _ _ (hkeep.out _ HP3.out.1) (fun hHeld => ?_)
              clear hK K hHeld HP2
              generalize V2.alloc (.cells #[.int .i64 0, .slice none 0 0, .int .i64 0, .int .i64 0] 32) = V3 at *
              generalize V2.heap.size = Y at *
              refine wpAnyH_ready (rs := [7]) (by kernel_rfl) (by simp) ?_
              refine AllReadyH.cons rfl (fun K hK => ?_) AllReadyH.nil
              go_simp
              refine (refU_any n1 b cb m (by omega) HI.out.2 _ (HS2.out.2.2.2.over HP3.out.1 (Nat.le_refl _))).mono ?_
              rintro e V4 ⟨hb, y, q2, d, B, rfl, hr, hkk⟩
              have HP4 := Lib.hid (HP3.out.call7 hb hr)
              have HB := Lib.hid hkk
              clear hb hr hkk HP3
              go_wp2_with fail
              refine hK.out _ _ (hkeep.out _ HP4.out.1) (fun hHeld => ?_)
              clear hK K hHeld
              obtain ⟨⟨z0, z1, z2, z3⟩, f0, f1, f2, f3⟩ := (HP4.out.2.1 X rfl).2.1.cells
              have hx := (HP4.out.2.1 X rfl).2.1.lt
              have HM := Lib.hid (HP4.out.lay (.int .i64 x) (.slice q A.length c) (.int .i64 (errN n0 l).1) (.int .i64 (errN n0 l).2))
              refine wpAnyH_ready (rs := [10]) (by kernel_rfl) (by simp) ?_
              refine AllReadyH.cons rfl (fun K hK => ?_) AllReadyH.nil
              go_simp
              refine hK.out _ _ (hkeep.out _ HM.out.1) (fun hHeld => ?_)
              clear hK K hHeld HP4 z0 z1 z2 z3 f0 f1 f2 f3 hx
              obtain ⟨V5, hV5⟩ : ∃ V5, V5 = lay4 V4 X (.int .i64 x) (.slice q A.length c) (.int .i64 (errN n0 l).1) (.int .i64 (errN n0 l).2) := ⟨_, rfl⟩
              rw [← hV5] at HM
              unfold lay4 at hV5
              rw [← hV5]
              clear hV5
              obtain ⟨⟨z0, z1, z2, z3⟩, f0, f1, f2, f3⟩ := HM.out.2.2.1.2.1.cells
              have hy := HM.out.2.2.1.2.1.lt
              have HL := Lib.hid (HM.out.lay (.int .i64 y) (.slice q2 B.length d) (.int .i64 (errN n1 m).1) (.int .i64 (errN n1 m).2))
              refine wpAnyH_ready (rs := [11]) (by kernel_rfl) (by simp) ?_
              refine AllReadyH.cons rfl (fun K hK => ?_) AllReadyH.nil
              go_simp
              refine hK.out _ _ (hkeep.out _ HL.out.1) (fun hHeld => ?_)
              clear hK K hHeld HM z0 z1 z2 z3 f0 f1 f2 f3 hy
              obtain ⟨V6, hV6⟩ : ∃ V6, V6 = lay4 V5 Y (.int .i64 y) (.slice q2 B.length d) (.int .i64 (errN n1 m).1) (.int .i64 (errN n1 m).2) := ⟨_, rfl⟩
              rw [← hV6] at HL
              unfold lay4 at hV6
              rw [← hV6]
              clear hV6
              refine wpAnyH_done (by kernel_rfl) ?_ _
              go_wp2_with fail; go_meet; case rel => exact ⟨X, Y, x, y, q, q2, c, d, A, B, rfl, rfl, Lib.hid ⟨HL.out, HA.out, HB.out⟩⟩
          · go_simp
            have HP2 := Lib.hid HP1.out.alloc9
            refine hK.out _ _ (hkeep.out _ HP2.out.1) (fun hHeld => ?_)
            clear hK K hHeld HP1
            generalize V1.alloc (.cells #[.int .i64 0, .slice none 0 0, .int .i64 0, .int .i64 0] 32) = V2 at *
            generalize V1.heap.size = Y at *
            refine wpAnyH_ready (rs := [7, 8]) (by kernel_rfl) (by simp) ?_
            refine AllReadyH.cons rfl (fun K hK => ?_) (AllReadyH.cons rfl (fun K hK => ?_) AllReadyH.nil)
            · go_simp
              refine (refU_any n1 b cb m (by omega) HI.out.2 _ (HS2.out.2.2.2.over HP2.out.1 (Nat.le_refl _))).mono ?_
              rintro e V3 ⟨hb, y, q2, d, B, rfl, hr, hkk⟩
              have HP3 := Lib.hid (HP2.out.call7 hb hr)
              have HB := Lib.hid hkk
              clear hb hr hkk HP2
              go_wp2_with fail
              refine hK.out _ _ (hkeep.out _ HP3.out.1) (fun hHeld => ?_)
              clear hK K hHeld
              refine wpAnyH_ready (rs := [8]) (by kernel_rfl) (by simp) ?_
              refine AllReadyH.cons rfl (fun K hK => ?_) AllReadyH.nil
              go_simp
              have HP4 := Lib.hid HP3.out.alloc8
              refine hK.out _ _ (hkeep.out _ HP4.out.1) (fun hHeld => ?_)
              clear hK K hHeld HP3
              generalize V3.alloc (.cells #[.int .i64 0, .slice none 0 0, .int .i64 0, .int .i64 0] 32) = V4 at *
              generalize V3.heap.size = X at *
              obtain ⟨⟨z0, z1, z2, z3⟩, f0, f1, f2, f3⟩ := (HP4.out.2.1 X rfl).2.1.cells
              have hx := (HP4.out.2.1 X rfl).2.1.lt
              have HM := Lib.hid (HP4.out.lay (.int .i64 x) (.slice q A.length c) (.int .i64 (errN n0 l).1) (.int .i64 (errN n0 l).2))
              refine wpAnyH_ready (rs := [10]) (by kernel_rfl) (by simp) ?_
              refine AllReadyH.cons rfl (fun K hK => ?_) AllReadyH.nil
              go_simp
              refine hK.out _ _ (hkeep.out _ HM.out.1) (fun hHeld => ?_)
              clear hK K hHeld HP4 z0 z1 z2 z3 f0 f1 f2 f3 hx
              obtain ⟨V5, hV5⟩ : ∃ V5, V5 = lay4 V4 X (.int .i64 x) (.slice q A.length c) (.int .i64 (errN n0 l).1) (.int .i64 (errN n0 l).2) := ⟨_, rfl⟩
              rw [← hV5] at HM
              unfold lay4 at hV5
              rw [← hV5]
              clear hV5
              obtain ⟨⟨z0, z1, z2, z3⟩, f0, f1, f2, f3⟩ := HM.out.2.2.1.2.1.cells
              have hy := HM.out.2.2.1.2.1.lt
              have HL := Lib.hid (HM.out.lay (.int .i64 y) (.slice q2 B.length d) (.int .i64 (errN n1 m).1) (.int .i64 (errN n1 m).2))
              refine wpAnyH_ready (rs := [11]) (by kernel_rfl) (by simp) ?_
              refine AllReadyH.cons rfl (fun K hK => ?_) AllReadyH.nil
              go_simp
              refine hK.out _ _ (hkeep.out _ HL.out.1) (fun hHeld => ?_)
              clear hK K hHeld HM z0 z1 z2 z3 f0 f1 f2 f3 hy
              obtain ⟨V6, hV6⟩ : ∃ V6, V6 = lay4 V5 Y (.int .i64 y) (.slice q2 B.length d) (.int .i64 (errN n1 m).1) (.int .i64 (errN n1 m).2) := ⟨_, rfl⟩
              rw [← hV6] at HL
              unfold lay4 at hV6
              rw [← hV6]
              clear hV6
              refine wpAnyH_done (by kernel_rfl) ?_ _
              go_wp2_with fail; go_meet; case rel => exact ⟨X, Y, x, y, q, q2, c, d, A, B, rfl, rfl, Lib.hid ⟨HL.out, HA.out, HB.out⟩⟩
            · go_simp
              have HP3 := Lib.hid HP2.out.alloc8
              refine hK.out _ _ (hkeep.out _ HP3.out.1) (fun hHeld => ?_)
              clear hK K hHeld HP2
              generalize V2.alloc (.cells #[.int .i64 0, .slice none 0 0, .int .i64 0, .int .i64 0] 32) = V3 at *
              generalize V2.heap.size = X at *
              refine wpAnyH_ready (rs := [7]) (by kernel_rfl) (by simp) ?_
              refine AllReadyH.cons rfl (fun K hK => ?_) AllReadyH.nil
              go_simp
              refine (refU_any n1 b cb m (by omega) HI.out.2 _ (HS2.out.2.2.2.over HP3.out.1 (Nat.le_refl _))).mono ?_
              rintro e V4 ⟨hb, y, q2, d, B, rfl, hr, hkk⟩
              have HP4 := Lib.hid (HP3.out.call7 hb hr)
              have HB := Lib.hid hkk
              clear hb hr hkk HP3
              go_wp2_with fail
              refine hK.out _ _ (hkeep.out _ HP4.out.1) (fun hHeld => ?_)
              clear hK K hHeld
              obtain ⟨⟨z0, z1, z2, z3⟩, f0, f1, f2, f3⟩ := (HP4.out.2.1 X rfl).2.1.cells
              have hx := (HP4.out.2.1 X rfl).2.1.lt
              have HM := Lib.hid (HP4.out.lay (.int .i64 x) (.slice q A.length c) (.int .i64 (errN n0 l).1) (.int .i64 (errN n0 l).2))
              refine wpAnyH_ready (rs := [10]) (by kernel_rfl) (by simp) ?_
              refine AllReadyH.cons rfl (fun K hK => ?_) AllReadyH.nil
              go_simp
              refine hK.out _ _ (hkeep.out _ HM.out.1) (fun hHeld => ?_)
              clear hK K hHeld HP4 z0 z1 z2 z3 f0 f1 f2 f3 hx
              obtain ⟨V5, hV5⟩ : ∃ V5, V5 = lay4 V4 X (.int .i64 x) (.slice q A.length c) (.int .i64 (errN n0 l).1) (.int .i64 (errN n0 l).2) := ⟨_, rfl⟩
              rw [← hV5] at HM
              unfold lay4 at hV5
              rw [← hV5]
              clear hV5
              obtain ⟨⟨z0, z1, z2, z3⟩, f0, f1, f2, f3⟩ := HM.out.2.2.1.2.1.cells
              have hy := HM.out.2.2.1.2.1.lt
              have HL := Lib.hid (HM.out.lay (.int .i64 y) (.slice q2 B.length d) (.int .i64 (errN n1 m).1) (.int .i64 (errN n1 m).2))
              refine wpAnyH_ready (rs := [11]) (by kernel_rfl) (by simp) ?_
              refine AllReadyH.cons rfl (fun K hK => ?_) AllReadyH.nil
              go_simp
              refine hK.out _ _ (hkeep.out _ HL.out.1) (fun hHeld => ?_)
              clear hK K hHeld HM z0 z1 z2 z3 f0 f1 f2 f3 hy
              obtain ⟨V6, hV6⟩ : ∃ V6, V6 = lay4 V5 Y (.int .i64 y) (.slice q2 B.length d) (.int .i64 (errN n1 m).1) (.int .i64 (errN n1 m).2) := ⟨_, rfl⟩
              rw [← hV6] at HL
              unfold lay4 at hV6
              rw [← hV6]
              clear hV6
              refine wpAnyH_done (by kernel_rfl) ?_ _
              go_wp2_with fail; go_meet; case rel => exact ⟨X, Y, x, y, q, q2, c, d, A, B, rfl, rfl, Lib.hid ⟨HL.out, HA.out, HB.out⟩⟩
        · go_simp
          have HP1 := Lib.hid HP0.out.alloc8
          refine hK.out _ _ (hkeep.out _ HP1.out.1) (fun hHeld => ?_)
          clear hK K hHeld HP0
          generalize V0.alloc (.cells #[.int .i64 0, .slice none 0 0, .int .i64 0, .int .i64 0] 32) = V1 at *
          generalize V0.heap.size = X at *
          refine wpAnyH_ready (rs := [3, 9]) (by kernel_rfl) (by simp) ?_
          refine AllReadyH.cons rfl (fun K hK => ?_) (AllReadyH.cons rfl (fun K hK => ?_) AllReadyH.nil)
          · go_simp
            refine (refU_any n0 a ca l (by omega) HI.out.1 _ (HS2.out.2.2.1.over HP1.out.1 (Nat.le_refl _))).mono ?_
            rintro e V2 ⟨hb, x, q, c, A, rfl, hr, hkk⟩
            have HP2 := Lib.hid (HP1.out.call3 hb hr)
            have HA := Lib.hid hkk
            clear hb hr hkk HP1
            go_wp2_with fail
            refine hK.out _ _ (hkeep.out _ HP2.out.1) (fun hHeld => ?_)
            clear hK K hHeld
            refine wpAnyH_ready (rs := [7, 9]) (by kernel_rfl) (by simp) ?_
            refine AllReadyH.cons rfl (fun K hK => ?_) (AllReadyH.cons rfl (fun K hK => ?_) AllReadyH.nil)
            · go_simp
              refine (refU_any n1 b cb m (by omega) HI.out.2 _ (HS2.out.2.2.2.over HP2.out.1 (Nat.le_refl _))).mono ?_
              rintro e V3 ⟨hb, y, q2, d, B, rfl, hr, hkk⟩
              have HP3 := Lib.hid (HP2.out.call7 hb hr)
              have HB := Lib.hid hkk
              clear hb hr hkk HP2
              go_wp2_with fail
              refine hK.out _ _ (hkeep.out _ HP3.out.1) (fun hHeld => ?_)
              clear hK K hHeld
              refine wpAnyH_ready (rs := [9]) (by kernel_rfl) (by simp) ?_
              refine AllReadyH.cons rfl (fun K hK => ?_) AllReadyH.nil
              go_simp
              have HP4 := Lib.hid HP3.out.alloc9
              refine hK.out _ _ (hkeep.out _ HP4.out.1) (fun hHeld => ?_)
              clear hK K hHeld HP3
              generalize V3.alloc (.cells #[.int .i64 0, .slice none 0 0, .int .i64 0, .int .i64 0] 32) = V4 at *
              generalize V3.heap.size = Y at *
              obtain ⟨⟨z0, z1, z2, z3⟩, f0, f1, f2, f3⟩ := (HP4.out.2.1 X rfl).2.1.cells
              have hx := (HP4.out.2.1 X rfl).2.1.lt
              have HM := Lib.hid (HP4.out.lay (.int .i64 x) (.slice q A.length c) (.int .i64 (errN n0 l).1) (.int .i64 (errN n0 l).2))
              refine wpAnyH_ready (rs := [10]) (by kernel_rfl) (by simp) ?_
              refine AllReadyH.cons rfl (fun K hK => ?_) AllReadyH.nil
              go_simp
              refine hK.out _ _ (hkeep.out _ HM.out.1) (fun hHeld => ?_)
              clear hK K hHeld HP4 z0 z1 z2 z3 f0 f1 f2 f3 hx
              obtain ⟨V5, hV5⟩ : ∃ V5, V5 = lay4 V4 X (.int .i64 x) (.slice q A.length c) (.int .i64 (errN n0 l).1) (.int .i64 (errN n0 l).2) := ⟨_, rfl⟩
              rw [← hV5] at HM
              unfold lay4 at hV5
              rw [← hV5]
              clear hV5
              obtain ⟨⟨z0, z1, z2, z3⟩, f0, f1, f2, f3⟩ := HM.out.2.2.1.2.1.cells
              have hy := HM.out.2.2.1.2.1.lt
              have HL := Lib.hid (HM.out.lay (.int .i64 y) (.slice q2 B.length d) (.int .i64 (errN n1 m).1) (.int .i64 (errN n1 m).2))
              refine wpAnyH_ready (rs := [11]) (by kernel_rfl) (by simp) ?_
              refine AllReadyH.cons rfl (fun K hK => ?_) AllReadyH.nil
              go_simp
              refine hK.out _ _ (hkeep.out _ HL.out.1) (fun hHeld => ?_)
              clear hK K hHeld HM z0 z1 z2 z3 f0 f1 f2 f3 hy
              obtain ⟨V6, hV6⟩ : ∃ V6, V6 = lay4 V5 Y (.int .i64 y) (.slice q2 B.length d) (.int .i64 (errN n1 m).1) (.int .i64 (errN n1 m).2) := ⟨_, rfl⟩
              rw [← hV6] at HL
              unfold lay4 at hV6
              rw [← hV6]
              clear hV6
              refine wpAnyH_done (by kernel_rfl) ?_ _
              go_wp2_with fail; go_meet; case rel => exact ⟨X, Y, x, y, q, q2, c, d, A, B, rfl, rfl, Lib.hid ⟨HL.out, HA.out, HB.out⟩⟩
            · go_simp
              have HP3 := Lib.hid HP2.out.alloc9
              refine hK.out _ _ (hkeep.out _ HP3.out.1) (fun hHeld => ?_)
              clear hK K hHeld HP2
              generalize V2.alloc (.cells #[.int .i64 0, .slice none 0 0, .int .i64 0, .int .i64 0] 32) = V3 at *
              generalize V2.heap.size = Y at *
              refine wpAnyH_ready (rs := [7]) (by kernel_rfl) (by simp) ?_
              refine AllReadyH.cons rfl (fun K hK => ?_) AllReadyH.nil
              go_simp
              refine (refU_any n1 b cb m (by omega) HI.out.2 _ (HS2.out.2.2.2.over HP3.out.1 (Nat.le_refl _))).mono ?_
              rintro e V4 ⟨hb, y, q2, d, B, rfl, hr, hkk⟩
              have HP4 := Lib.hid (HP3.out.call7 hb hr)
              have HB := Lib.hid hkk
              clear hb hr hkk HP3
              go_wp2_with fail
              refine hK.out _ _ (hkeep.out _ HP4.out.1) (fun hHeld => ?_)
              clear hK K hHeld
              obtain ⟨⟨z0, z1, z2, z3⟩, f0, f1, f2, f3⟩ := (HP4.out.2.1 X rfl).2.1.cells
              have hx := (HP4.out.2.1 X rfl).2.1.lt
              have HM := Lib.hid (HP4.out.lay (.int .i64 x) (.slice q A.length c) (.int .i64 (errN n0 l).1) (.int .i64 (errN n0 l).2))
              refine wpAnyH_ready (rs := [10]) (by kernel_rfl) (by simp) ?_
              refine AllReadyH.cons rfl (fun K hK => ?_) AllReadyH.nil
              go_simp
              refine hK.out _ _ (hkeep.out _ HM.out.1) (fun hHeld => ?_)
              clear hK K hHeld HP4 z0 z1 z2 z3 f0 f1 f2 f3 hx
              obtain ⟨V5, hV5⟩ : ∃ V5, V5 = lay4 V4 X (.int .i64 x) (.slice q A.length c) (.int .i64 (errN n0 l).1) (.int .i64 (errN n0 l).2) := ⟨_, rfl⟩
              rw [← hV5] at HM
              unfold lay4 at hV5
              rw [← hV5]
              clear hV5
              obtain ⟨⟨z0, z1, z2, z3⟩, f0, f1, f2, f3⟩ := HM.out.2.2.1.2.1.cells
              have hy := HM.out.2.2.1.2.1.lt
              have HL := Lib.hid (HM.out.lay (.int .i64 y) (.slice q2 B.length d) (.int .i64 (errN n1 m).1) (.int .i64 (errN n1 m).2))
              refine wpAnyH_ready (rs := [11]) (by kernel_rfl) (by simp) ?_
              refine AllReadyH.cons rfl (fun K hK => ?_) AllReadyH.nil
              go_simp
              refine hK.out _ _ (hkeep.out _ HL.out.1) (fun hHeld => ?_)
              clear hK K hHeld HM z0 z1 z2 z3 f0 f1 f2 f3 hy
              obtain ⟨V6, hV6⟩ : ∃ V6, V6 = lay4 V5 Y (.int .i64 y) (.slice q2 B.length d) (.int .i64 (errN n1 m).1) (.int .i64 (errN n1 m).2) := ⟨_, rfl⟩
              rw [← hV6] at HL
              unfold lay4 at hV6
              rw [← hV6]
              clear hV6
              refine wpAnyH_done (by kernel_rfl) ?_ _
              go_wp2_with fail; go_meet; case rel => exact ⟨X, Y, x, y, q, q2, c, d, A, B, rfl, rfl, Lib.hid ⟨HL.out, HA.out, HB.out⟩⟩
          · go_simp
            have HP2 := Lib.hid HP1.out.alloc9
            refine hK.out _ _ (hkeep.out _ HP2.out.1) (fun hHeld => ?_)
            clear hK K hHeld HP1
            generalize V1.alloc (.cells #[.int .i64 0, .slice none 0 0, .int .i64 0, .int .i64 0] 32) = V2 at *
            generalize V1.heap.size = Y at *
            refine wpAnyH_ready (rs := [3]) (by kernel_rfl) (by simp) ?_
            refine AllReadyH.cons rfl (fun K hK => ?_) AllReadyH.nil
            go_simp
            refine (refU_any n0 a ca l (by omega) HI.out.1 _ (HS2.out.2.2.1.over HP2.out.1 (Nat.le_refl _))).mono ?_
            rintro e V3 ⟨hb, x, q, c, A, rfl, hr, hkk⟩
            have HP3 := Lib.hid (HP2.out.call3 hb hr)
            have HA := Lib.hid hkk
            clear hb hr hkk HP2
            go_wp2_with fail
            refine hK.out _ _ (hkeep.out _ HP3.out.1) (fun hHeld => ?_)
            clear hK K hHeld
            refine wpAnyH_ready (rs := [7]) (by kernel_rfl) (by simp) ?_
            refine AllReadyH.cons rfl (fun K hK => ?_) AllReadyH.nil
            go_simp
            refine (refU_any n1 b cb m (by omega) HI.out.2 _ (HS2.out.2.2.2.over HP3.out.1 (Nat.le_refl _))).mono ?_
            rintro e V4 ⟨hb, y, q2, d, B, rfl, hr, hkk⟩
            have HP4 := Lib.hid (HP3.out.call7 hb hr)
            have HB := Lib.hid hkk
            clear hb hr hkk HP3
            go_wp2_with fail
            refine hK.out _ _ (hkeep.out _ HP4.out.1) (fun hHeld => ?_)
            clear hK K hHeld
            obtain ⟨⟨z0, z1, z2, z3⟩, f0, f1, f2, f3⟩ := (HP4.out.2.1 X rfl).2.1.cells
            have hx := (HP4.out.2.1 X rfl).2.1.lt
            have HM := Lib.hid (HP4.out.lay (.int .i64 x) (.slice q A.length c) (.int .i64 (errN n0 l).1) (.int .i64 (errN n0 l).2))
            refine wpAnyH_ready (rs := [10]) (by kernel_rfl) (by simp) ?_
            refine AllReadyH.cons rfl (fun K hK => ?_) AllReadyH.nil
            go_simp
            refine hK.out _ _ (hkeep.out _ HM.out.1) (fun hHeld => ?_)
            clear hK K hHeld HP4 z0 z1 z2 z3 f0 f1 f2 f3 hx
            obtain ⟨V5, hV5⟩ : ∃ V5, V5 = lay4 V4 X (.int .i64 x) (.slice q A.length c) (.int .i64 (errN n0 l).1) (.int .i64 (errN n0 l).2) := ⟨_, rfl⟩
            rw [← hV5] at HM
            unfold lay4 at hV5
            rw [← hV5]
            clear hV5
            obtain ⟨⟨z0, z1, z2, z3⟩, f0, f1, f2, f3⟩ := HM.out.2.2.1.2.1.cells
            have hy := HM.out.2.2.1.2.1.lt
            have HL := Lib.hid (HM.out.lay (.int .i64 y) (.slice q2 B.length d) (.int .i64 (errN n1 m).1) (.int .i64 (errN n1 m).2))
            refine wpAnyH_ready (rs := [11]) (by kernel_rfl) (by simp) ?_
            refine AllReadyH.cons rfl (fun K hK => ?_) AllReadyH.nil
            go_simp
            refine hK.out _ _ (hkeep.out _ HL.out.1) (fun hHeld => ?_)
            clear hK K hHeld HM z0 z1 z2 z3 f0 f1 f2 f3 hy
            obtain ⟨V6, hV6⟩ : ∃ V6, V6 = lay4 V5 Y (.int .i64 y) (.slice q2 B.length d) (.int .i64 (errN n1 m).1) (.int .i64 (errN n1 m).2) := ⟨_, rfl⟩
            rw [← hV6] at HL
            unfold lay4 at hV6
            rw [← hV6]
            clear hV6
            refine wpAnyH_done (by kernel_rfl) ?_ _
            go_wp2_with fail; go_meet; case rel => exact ⟨X, Y, x, y, q, q2, c, d, A, B, rfl, rfl, Lib.hid ⟨HL.out, HA.out, HB.out⟩⟩
        · go_simp
          have HP1 := Lib.hid HP0.out.alloc9
          refine hK.out _ _ (hkeep.out _ HP1.out.1) (fun hHeld => ?_)
          clear hK K hHeld HP0
          generalize V0.alloc (.cells #[.int .i64 0, .slice none 0 0, .int .i64 0, .int .i64 0] 32) = V1 at *
          generalize V0.heap.size = Y at *
          refine wpAnyH_ready (rs := [3, 8]) (by kernel_rfl) (by simp) ?_
          refine AllReadyH.cons rfl (fun K hK => ?_) (AllReadyH.cons rfl (fun K hK => ?_) AllReadyH.nil)
          · go_simp
            refine (refU_any n0 a ca l (by omega) HI.out.1 _ (HS2.out.2.2.1.over HP1.out.1 (Nat.le_refl _))).mono ?_
            rintro e V2 ⟨hb, x, q, c, A, rfl, hr, hkk⟩
            have HP2 := Lib.hid (HP1.out.call3 hb hr)
            have HA := Lib.hid hkk
            clear hb hr hkk HP1
            go_wp2_with fail
            refine hK.out _ _ (hkeep.out _ HP2.out.1) (fun hHeld => ?_)
            clear hK K hHeld
            refine wpAnyH_ready (rs := [7, 8]) (by kernel_rfl) (by simp) ?_
            refine AllReadyH.cons rfl (fun K hK => ?_) (AllReadyH.cons rfl (fun K hK => ?_) AllReadyH.nil)
            · go_simp
              refine (refU_any n1 b cb m (by omega) HI.out.2 _ (HS2.out.2.2.2.over HP2.out.1 (Nat.le_refl _))).mono ?_
              rintro e V3 ⟨hb, y, q2, d, B, rfl, hr, hkk⟩
              have HP3 := Lib.hid (HP2.out.call7 hb hr)
              have HB := Lib.hid hkk
              clear hb hr hkk HP2
              go_wp2_with fail
              refine hK.out _ _ (hkeep.out _ HP3.out.1) (fun hHeld => ?_)
              clear hK K hHeld
              refine wpAnyH_ready (rs := [8]) (by kernel_rfl) (by simp) ?_
              refine AllReadyH.cons rfl (fun K hK => ?_) AllReadyH.nil
              go_simp
              have HP4 := Lib.hid HP3.out.alloc8
              refine hK.out _ _ (hkeep.out _ HP4.out.1) (fun hHeld => ?_)
              clear hK K hHeld HP3
              generalize V3.alloc (.cells #[.int .i64 0, .slice none 0 0, .int .i64 0, .int .i64 0] 32) = V4 at *
              generalize V3.heap.size = X at *
              obtain ⟨⟨z0, z1, z2, z3⟩, f0, f1, f2, f3⟩ := (HP4.out.2.1 X rfl).2.1.cells
              have hx := (HP4.out.2.1 X rfl).2.1.lt
              have HM := Lib.hid (HP4.out.lay (.int .i64 x) (.slice q A.length c) (.int .i64 (errN n0 l).1) (.int .i64 (errN n0 l).2))
              refine wpAnyH_ready (rs := [10]) (by kernel_rfl) (by simp) ?_
              refine AllReadyH.cons rfl (fun K hK => ?_) AllReadyH.nil
              go_simp
              refine hK.out _ _ (hkeep.out _ HM.out.1) (fun hHeld => ?_)
              clear hK K hHeld HP4 z0 z1 z2 z3 f0 f1 f2 f3 hx
              obtain ⟨V5, hV5⟩ : ∃ V5, V5 = lay4 V4 X (.int .i64 x) (.slice q A.length c) (.int .i64 (errN n0 l).1) (.int .i64 (errN n0 l).2) := ⟨_, rfl⟩
              rw [← hV5] at HM
              unfold lay4 at hV5
              rw [← hV5]
              clear hV5
              obtain ⟨⟨z0, z1, z2, z3⟩, f0, f1, f2, f3⟩ := HM.out.2.2.1.2.1.cells
              have hy := HM.out.2.2.1.2.1.lt
              have HL := Lib.hid (HM.out.lay (.int .i64 y) (.slice q2 B.length d) (.int .i64 (errN n1 m).1) (.int .i64 (errN n1 m).2))
              refine wpAnyH_ready (rs := [11]) (by kernel_rfl) (by simp) ?_
              refine AllReadyH.cons rfl (fun K hK => ?_) AllReadyH.nil
              go_simp
              refine hK.out _ _ (hkeep.out _ HL.out.1) (fun hHeld => ?_)
              clear hK K hHeld HM z0 z1 z2 z3 f0 f1 f2 f3 hy
              obtain ⟨V6, hV6⟩ : ∃ V6, V6 = lay4 V5 Y (.int .i64 y) (.slice q2 B.length d) (.int .i64 (errN n1 m).1) (.int .i64 (errN n1 m).2) := ⟨_, rfl⟩
              rw [← hV6] at HL
              unfold lay4 at hV6
              rw [← hV6]
              clear hV6
              refine wpAnyH_done (by kernel_rfl) ?_ _
              go_wp2_with fail; go_meet; case rel => exact ⟨X, Y, x, y, q, q2, c, d, A, B, rfl, rfl, Lib.hid ⟨HL.out, HA.out, HB.out⟩⟩
            · go_simp
              have HP3 := Lib.hid HP2.out.alloc8
              refine hK.out _ _ (hkeep.out _ HP3.out.1) (fun hHeld => ?_)
              clear hK K hHeld HP2
              generalize V2.alloc (.cells #[.int .i64 0, .slice none 0 0, .int .i64 0, .int .i64 0] 32) = V3 at *
              generalize V2.heap.size = X at *
              refine wpAnyH_ready (rs := [7]) (by kernel_rfl) (by simp) ?_
              refine AllReadyH.cons rfl (fun K hK => ?_) AllReadyH.nil
              go_simp
              refine (refU_any n1 b cb m (by omega) HI.out.2 _ (HS2.out.2.2.2.over HP3.out.1 (Nat.le_refl _))).mono ?_
              rintro e V4 ⟨hb, y, q2, d, B, rfl, hr, hkk⟩
              have HP4 := Lib.hid (HP3.out.call7 hb hr)
              have HB := Lib.hid hkk
              clear hb hr hkk HP3
              go_wp2_with fail
              refine hK.out _ _ (hkeep.out _ HP4.out.1) (fun hHeld => ?_)
              clear hK K hHeld
              obtain ⟨⟨z0, z1, z2, z3⟩, f0, f1, f2, f3⟩ := (HP4.out.2.1 X rfl).2.1.cells
              have hx := (HP4.out.2.1 X rfl).2.1.lt
              have HM := Lib.hid (HP4.out.lay (.int .i64 x) (.slice q A.length c) (.int .i64 (errN n0 l).1) (.int .i64 (errN n0 l).2))
              refine wpAnyH_ready (rs := [10]) (by kernel_rfl) (by simp) ?_
              refine AllReadyH.cons rfl (fun K hK => ?_) AllReadyH.nil
              go_simp
              refine hK.out _ _ (hkeep.out _ HM.out.1) (fun hHeld => ?_)
              clear hK K hHeld HP4 z0 z1 z2 z3 f0 f1 f2 f3 hx
              obtain ⟨V5, hV5⟩ : ∃ V5, V5 = lay4 V4 X (.int .i64 x) (.slice q A.length c) (.int .i64 (errN n0 l).1) (.int .i64 (errN n0 l).2) := ⟨_, rfl⟩
              rw [← hV5] at HM
              unfold lay4 at hV5
              rw [← hV5]
              clear hV5
              obtain ⟨⟨z0, z1, z2, z3⟩, f0, f1, f2, f3⟩ := HM.out.2.2.1.2.1.cells
              have hy := HM.out.2.2.1.2.1.lt
              have HL := Lib.hid (HM.out.lay (.int .i64 y) (.slice q2 B.length d) (.int .i64 (errN n1 m).1) (.int .i64 (errN n1 m).2))
              refine wpAnyH_ready (rs := [11]) (by kernel_rfl) (by simp) ?_
              refine AllReadyH.cons rfl (fun K hK => ?_) AllReadyH.nil
              go_simp
              refine hK.out _ _ (hkeep.out _ HL.out.1) (fun hHeld => ?_)
              clear hK K hHeld HM z0 z1 z2 z3 f0 f1 f2 f3 hy
              obtain ⟨V6, hV6⟩ : ∃ V6, V6 = lay4 V5 Y (.int .i64 y) (.slice q2 B.length d) (.int .i64 (errN n1 m).1) (.int .i64 (errN n1 m).2) := ⟨_, rfl⟩
              rw [← hV6] at HL
              unfold lay4 at hV6
              rw [← hV6]
              clear hV6
              refine wpAnyH_done (by kernel_rfl) ?_ _
              go_wp2_with fail; go_meet; case rel => exact ⟨X, Y, x, y, q, q2, c, d, A, B, rfl, rfl, Lib.hid ⟨HL.out, HA.out, HB.out⟩⟩
          · go_simp
            have HP2 := Lib.hid HP1.out.alloc8
            refine hK.out _ _ (hkeep.out _ HP2.out.1) (fun hHeld => ?_)
            clear hK K hHeld HP1
            generalize V1.alloc (.cells #[.int .i64 0, .slice none 0 0, .int .i64 0, .int .i64 0] 32) = V2 at *
            generalize V1.heap.size = X at *
            refine wpAnyH_ready (rs := [3]) (by kernel_rfl) (by simp) ?_
            refine AllReadyH.cons rfl (fun K hK => ?_) AllReadyH.nil
            go_simp
            refine (refU_any n0 a ca l (by omega) HI.out.1 _ (HS2.out.2.2.1.over HP2.out.1 (Nat.le_refl _))).mono ?_
            rintro e V3 ⟨hb, x, q, c, A, rfl, hr, hkk⟩
            have HP3 := Lib.hid (HP2.out.call3 hb hr)
            have HA := Lib.hid hkk
            clear hb hr hkk HP2
            go_wp2_with fail
            refine hK.out _ _ (hkeep.out _ HP3.out.1) (fun hHeld => ?_)
            clear hK K hHeld
            refine wpAnyH_ready (rs := [7]) (by kernel_rfl) (by simp) ?_
            refine AllReadyH.cons rfl (fun K hK => ?_) AllReadyH.nil
            go_simp
            refine (refU_any n1 b cb m (by omega) HI.out.2 _ (HS2.out.2.2.2.over HP3.out.1 (Nat.le_refl _))).mono ?_
            rintro e V4 ⟨hb, y, q2, d, B, rfl, hr, hkk⟩
            have HP4 := Lib.hid (HP3.out.call7 hb hr)
            have HB := Lib.hid hkk
            clear hb hr hkk HP3
            go_wp2_with fail
            refine hK.out _ _ (hkeep.out _ HP4.out.1) (fun hHeld => ?_)
            clear hK K hHeld
            obtain ⟨⟨z0, z1, z2, z3⟩, f0, f1, f2, f3⟩ := (HP4.out.2.1 X rfl).2.1.cells
            have hx := (HP4.out.2.1 X rfl).2.1.lt
            have HM := Lib.hid (HP4.out.lay (.int .i64 x) (.slice q A.length c) (.int .i64 (errN n0 l).1) (.int .i64 (errN n0 l).2))
            refine wpAnyH_ready (rs := [10]) (by kernel_rfl) (by simp) ?_
            refine AllReadyH.cons rfl (fun K hK => ?_) AllReadyH.nil
            go_simp
            refine hK.out _ _ (hkeep.out _ HM.out.1) (fun hHeld => ?_)
            clear hK K hHeld HP4 z0 z1 z2 z3 f0 f1 f2 f3 hx
            obtain ⟨V5, hV5⟩ : ∃ V5, V5 = lay4 V4 X (.int .i64 x) (.slice q A.length c) (.int .i64 (errN n0 l).1) (.int .i64 (errN n0 l).2) := ⟨_, rfl⟩
            rw [← hV5] at HM
            unfold lay4 at hV5
            rw [← hV5]
            clear hV5
            obtain ⟨⟨z0, z1, z2, z3⟩, f0, f1, f2, f3⟩ := HM.out.2.2.1.2.1.cells
            have hy := HM.out.2.2.1.2.1.lt
            have HL := Lib.hid (HM.out.lay (.int .i64 y) (.slice q2 B.length d) (.int .i64 (errN n1 m).1) (.int .i64 (errN n1 m).2))
            refine wpAnyH_ready (rs := [11]) (by kernel_rfl) (by simp) ?_
            refine AllReadyH.cons rfl (fun K hK => ?_) AllReadyH.nil
            go_simp
            refine hK.out _ _ (hkeep.out _ HL.out.1) (fun hHeld => ?_)
            clear hK K hHeld HM z0 z1 z2 z3 f0 f1 f2 f3 hy
            obtain ⟨V6, hV6⟩ : ∃ V6, V6 = lay4 V5 Y (.int .i64 y) (.slice q2 B.length d) (.int .i64 (errN n1 m).1) (.int .i64 (errN n1 m).2) := ⟨_, rfl⟩
            rw [← hV6] at HL
            unfold lay4 at hV6
            rw [← hV6]
            clear hV6
            refine wpAnyH_done (by kernel_rfl) ?_ _
            go_wp2_with fail; go_meet; case rel => exact ⟨X, Y, x, y, q, q2, c, d, A, B, rfl, rfl, Lib.hid ⟨HL.out, HA.out, HB.out⟩⟩
      case rest =>
        obtain ⟨X, Y, x, y, q, q2, c, d, A, B, rfl, rfl, HC⟩ := hcut
        have HE0 : Hid (EnSt W p r N N' M M' X Y x y q q2 c d A B (errN n0 l).1 (errN n0 l).2 (errN n1 m).1 (errN n1 m).2 wc) := Lib.hid ⟨HS2.out.1.trans (HC.out.1.1.mono HS2.out.1.size), HP2.out.over HC.out.1.1, HR2.out.over HC.out.1.1, ⟨HC.out.1.2.1, HC.out.1.2.2.1⟩, HC.out.1.2.2.2.1, HC.out.1.2.2.2.2⟩
        have HRK := Lib.hid HC.out.2
        clear HC HS2 HP2 HR2
        go_wp2_with fail
        refine (edge0 _).mono ?_
        rintro e w3 ⟨rfl, hb1⟩
        have HE1 := Lib.hid (HE0.out.keep hb1)
        clear hb1 HE0
        have HEa := Lib.hid (HE1.out.keep ((Below.refl w3.heap.size w3).alloc (Nat.le_refl _) (.cells #[.int .i64 0, .int .i64 0, .int .i64 0] 35)))
        go_upto_region 8 with fail
        clear HE1
        generalize w3.alloc (.cells #[.int .i64 0, .int .i64 0, .int .i64 0] 35) = w3a at *
        have HE1 := HEa
        clear HEa
        go_wp2_with fail
        refine (num0 _).mono ?_
        rintro e w4 ⟨rfl, hb2⟩
        have HE2 := Lib.hid (HE1.out.keep hb2)
        clear hb2 HE1
        go_wp2_with fail
        refine (cnt0 _).mono ?_
        rintro e w5 ⟨rfl, hb3⟩
        have HE3 := Lib.hid (HE2.out.keep hb3)
        clear hb3 HE2
        go_wp2_with fail
        refine (edges0 _).mono ?_
        rintro e w6 ⟨hb4, _, _, rfl⟩
        have HE4 := Lib.hid (HE3.out.keep hb4)
        clear hb4 HE3
        go_wp2_with fail
        refine (weight0 _).mono ?_
        rintro e w7 ⟨rfl, hb5⟩
        have HE5 := Lib.hid (HE4.out.keep hb5)
        clear hb5 HE4
        go_wp2_with fail
        refine (degree0 _).mono ?_
        rintro e w8 ⟨rfl, hb6⟩
        have HE6 := Lib.hid (HE5.out.keep hb6)
        clear hb6 HE5
        go_wp2_with fail
        refine (near0 _).mono ?_
        rintro e w9 ⟨hb7, _, _, rfl⟩
        have HE7 := Lib.hid (HE6.out.keep hb7)
        clear hb7 HE6
        go_wp2_with fail
        refine (total0 _).mono ?_
        rintro e w10 ⟨rfl, hb8⟩
        have HE8 := Lib.hid (HE7.out.keep hb8)
        clear hb8 HE7
        go_wp2_with fail
        refine (same0 _).mono ?_
        rintro e w11 ⟨rfl, hb9⟩
        have HE9 := Lib.hid (HE8.out.keep hb9)
        clear hb9 HE8
        obtain ⟨⟨hN, hM1, hg⟩, hk⟩ := HK.out
        obtain ⟨⟨hN', hM1', hg'⟩, hk'⟩ := HK'.out
        have HG := Lib.hid (And.intro hg hg')
        clear hg hg' HK HK'
        rcases hk with ⟨he, rfl, rfl, rfl⟩ | ⟨he, ⟨g, rfl⟩, rfl, hm⟩
        · have t : ((errN n0 l).1 != 0) = true := by simpa using he
          rcases hk' with ⟨hf, rfl, rfl, rfl⟩ | ⟨hf, ⟨g', rfl⟩, rfl, hm'⟩
          · have t2 : ((errN n1 m).1 != 0) = true := by simpa using hf
            have HX : Hid (sameG none none 0 0 [] [] = true) := Lib.hid rfl
            clear he hf
            go_wp2_with fail
            refine (sameN_any none none 0 0 [] [] hM1 hM1' hN hN' _ HE9.out.2.1 HE9.out.2.2.1).mono ?_
            rw [HX.out]
            rintro e w12 ⟨rfl, hb10⟩
            have HE10 := Lib.hid (HE9.out.keep hb10)
            clear hb10 HE9
            go_wp2_with fail
            refine (awake_any _).mono ?_
            rintro e w13 ⟨rfl, hb11⟩
            have HE11 := Lib.hid (HE10.out.keep hb11)
            clear hb11 HE10
            go_wp2
            go_ret
            exact ⟨rfl, HE11.out.1⟩
          · have t2 : ((errN (N' : Int) m).1 != 0) = false := by rw [hf]; rfl
            have HX : Hid (sameG none (some ⟨g', 0, none⟩) 0 N' [] M' = false) := Lib.hid (by unfold sameG; simp)
            clear he hf hm'
            go_wp2_with fail
            refine (sameN_any none (some ⟨g', 0, none⟩) 0 N' [] M' hM1 hM1' hN hN' _ HE9.out.2.1 HE9.out.2.2.1).mono ?_
            rw [HX.out]
            rintro e w12 ⟨rfl, hb10⟩
            have HE10 := Lib.hid (HE9.out.keep hb10)
            clear hb10 HE9
            go_wp2_with fail
            refine (awake_any _).mono ?_
            rintro e w13 ⟨rfl, hb11⟩
            have HE11 := Lib.hid (HE10.out.keep hb11)
            clear hb11 HE10
            go_wp2
            go_ret
            exact ⟨rfl, HE11.out.1⟩
        · have t : ((errN (N : Int) l).1 != 0) = false := by rw [he]; rfl
          rcases hk' with ⟨hf, rfl, rfl, rfl⟩ | ⟨hf, ⟨g', rfl⟩, rfl, hm'⟩
          · have t2 : ((errN n1 m).1 != 0) = true := by simpa using hf
            have HX : Hid (sameG (some ⟨g, 0, none⟩) none N 0 M [] = false) := Lib.hid (by unfold sameG; simp)
            clear he hf hm
            go_wp2_with fail
            refine (sameN_any (some ⟨g, 0, none⟩) none N 0 M [] hM1 hM1' hN hN' _ HE9.out.2.1 HE9.out.2.2.1).mono ?_
            rw [HX.out]
            rintro e w12 ⟨rfl, hb10⟩
            have HE10 := Lib.hid (HE9.out.keep hb10)
            clear hb10 HE9
            go_wp2_with fail
            refine (awake_any _).mono ?_
            rintro e w13 ⟨rfl, hb11⟩
            have HE11 := Lib.hid (HE10.out.keep hb11)
            clear hb11 HE10
            go_wp2
            go_ret
            exact ⟨rfl, HE11.out.1⟩
          · have t2 : ((errN (N' : Int) m).1 != 0) = false := by rw [hf]; rfl
            obtain ⟨rfl, rfl⟩ : x = (N : Int) ∧ M = A := by
              rcases HRK.out.1 with ⟨h, -, -⟩ | ⟨-, h1, h2⟩
              · rw [he] at h; exact absurd rfl h
              · exact ⟨h1, Option.some.inj (hm.symm.trans h2)⟩
            obtain ⟨rfl, rfl⟩ : y = (N' : Int) ∧ M' = B := by
              rcases HRK.out.2 with ⟨h, -, -⟩ | ⟨-, h1, h2⟩
              · rw [hf] at h; exact absurd rfl h
              · exact ⟨h1, Option.some.inj (hm'.symm.trans h2)⟩
            clear he hf hm hm' HRK
            obtain ⟨⟨⟨c0, c1, c2, c3⟩, -⟩, ⟨d0, d1, d2, d3⟩, -⟩ := And.intro HE9.out.2.2.2.1.1.cells HE9.out.2.2.2.1.2.cells
            have xl := HE9.out.2.2.2.1.1.lt
            have yl := HE9.out.2.2.2.1.2.lt
            have HXX : Hid (sameG (some ⟨g, 0, none⟩) (some ⟨g, 0, none⟩) N N M M = true) := Lib.hid (by unfold sameG; simp)
            have HXY : Hid (sameG (some ⟨g, 0, none⟩) (some ⟨g', 0, none⟩) N N' M M' = decide (N = N' ∧ M = M')) := Lib.hid (by unfold sameG; simp)
            by_cases hnn : N = N'
            · subst hnn
              obtain ⟨bb, hbb⟩ : ∃ bb, decide (M = M') = bb := ⟨_, rfl⟩
              have HBB := Lib.hid hbb
              have HXZ : Hid (sameG (some ⟨g, 0, none⟩) (some ⟨g', 0, none⟩) N N M M' = bb) := Lib.hid (by rw [HXY.out, ← hbb]; simp)
              have s1 : (bb == bb) = true := beq_self_eq_true _
              have s2 : ((N : Int) == (N : Int)) = true := beq_self_eq_true _
              clear hbb HXY
              go_wp2_with fail
              refine (same_any q q2 c d M M' hM1 hM1' _ HE9.out.2.2.2.2.1 HE9.out.2.2.2.2.2).mono ?_
              rw [HBB.out]
              rintro e w12 ⟨rfl, hb10⟩
              have HE10 := Lib.hid (HE9.out.keep hb10)
              clear hb10 HE9
              clear c0 c1 c2 c3 d0 d1 d2 d3 xl yl
              go_wp2_with fail
              refine (sameN_any (some ⟨g, 0, none⟩) (some ⟨g', 0, none⟩) N N M M' hM1 hM1' hN hN _ HE10.out.2.1 HE10.out.2.2.1).mono ?_
              rw [HXZ.out]
              rintro e w13 ⟨rfl, hb11⟩
              have HE11 := Lib.hid (HE10.out.keep hb11)
              clear hb11 HE10
              go_wp2_with fail
              refine (sameN_any (some ⟨g, 0, none⟩) (some ⟨g, 0, none⟩) N N M M hM1 hM1 hN hN _ HE11.out.2.1 HE11.out.2.1).mono ?_
              rw [HXX.out]
              rintro e w14 ⟨rfl, hb12⟩
              have HE12 := Lib.hid (HE11.out.keep hb12)
              clear hb12 HE11
              go_wp2_with fail
              refine (awake_any _).mono ?_
              rintro e w15 ⟨rfl, hb13⟩
              have HE13 := Lib.hid (HE12.out.keep hb13)
              clear hb13 HE12
              go_wp2
              go_ret
              exact ⟨rfl, HE13.out.1⟩
            · have s2 : ((N : Int) == (N' : Int)) = false := by rw [beq_eq_false_iff_ne]; omega
              have HXZ : Hid (sameG (some ⟨g, 0, none⟩) (some ⟨g', 0, none⟩) N N' M M' = false) := Lib.hid (by rw [HXY.out]; exact decide_eq_false (fun h => hnn h.1))
              clear hnn HXY
              go_wp2_with fail
              refine (sameN_any (some ⟨g, 0, none⟩) (some ⟨g', 0, none⟩) N N' M M' hM1 hM1' hN hN' _ HE9.out.2.1 HE9.out.2.2.1).mono ?_
              rw [HXZ.out]
              rintro e w12 ⟨rfl, hb10⟩
              have HE10 := Lib.hid (HE9.out.keep hb10)
              clear hb10 HE9
              clear c0 c1 c2 c3 d0 d1 d2 d3 xl yl
              go_wp2_with fail
              refine (sameN_any (some ⟨g, 0, none⟩) (some ⟨g, 0, none⟩) N N M M hM1 hM1 hN hN _ HE10.out.2.1 HE10.out.2.1).mono ?_
              rw [HXX.out]
              rintro e w13 ⟨rfl, hb11⟩
              have HE11 := Lib.hid (HE10.out.keep hb11)
              clear hb11 HE10
              go_wp2_with fail
              refine (awake_any _).mono ?_
              rintro e w14 ⟨rfl, hb12⟩
              have HE12 := Lib.hid (HE11.out.keep hb12)
              clear hb12 HE11
              go_wp2
              go_ret
              exact ⟨rfl, HE12.out.1⟩
    · have i1 : ¬ (l.length : Int) > 100 := by omega
      have i2 : (m.length : Int) > 100 := by omega
      go_enter Try.func4, Try.ntmps4
      go_wp2_with fail
      refine (awake_any _).mono ?_
      rintro e w1 ⟨rfl, hb1⟩
      have HB1 := Lib.hid (HB0.out.trans (hb1.mono HB0.out.size))
      clear hb1
      go_wp2
      go_ret
      exact ⟨rfl, HB1.out⟩
  · have i1 : (l.length : Int) > 100 := by omega
    go_enter Try.func4, Try.ntmps4
    go_wp2_with fail
    refine (awake_any _).mono ?_
    rintro e w1 ⟨rfl, hb1⟩
    have HB1 := Lib.hid (HB0.out.trans (hb1.mono HB0.out.size))
    clear hb1
    go_wp2
    go_ret
    exact ⟨rfl, HB1.out⟩
theorem own : ownKnob Try.prog.godebug = none := by kernel_rfl
theorem laidOut : laidOutB Try.prog = true := by kernel_rfl
set_option maxRecDepth 100000 in
theorem lifted (os : Os) (started : os.Started) (H : Type) (enc : TypeId × Value → H) :
    ReturnsInHanded {} Try.checked os 4 .any (Rows.netSameSpec.pre6 enc Try.prog Try.f4 Rows.netSameRow.domain false) (Rows.netSameSpec.post enc Try.prog Try.f4 false true false false) := by
  refine returnsInHanded_of_change (C := Try.checked) own started (by kernel_rfl) Try.func4
    (ChangeSpec.witness6 (enc := enc) (C := Try.checked) false ⟨#[], #[.agg #[.int .i64 0, .int .i64 0], .slice none 0 0, .slice none 0 0], []⟩ 8 (by kernel_rfl) (by kernel_rfl) (by kernel_rfl) (by kernel_rfl)) ?_
  intro W base args ds gs before hval0 hW hcnd _
  have hval : ∀ (j : Nat) t v, Try.f4.params[j]? = some t → args[j]? = some v → Value.okWide Try.prog W .any base t v := hval0
  have hW' := hW
  obtain ⟨p, q, hA0, hV, rfl, hfz, hnd⟩ := hW
  have hA : DataW.TrodAll enc Try.prog W 0 (fun _ => true) true Try.f4.params.toList args.toList ds p := hA0
  rw [Try.params4] at hA hval
  obtain ⟨v0, vs0, d0, ds0, p0, q0, hargs, rfl, rfl, h0, r0⟩ := trodAll_cons hA
  obtain ⟨v1, vs1, d1, ds1, p1, q1, rfl, rfl, rfl, h1, r1⟩ := trodAll_cons r0
  obtain ⟨v2, vs2, d2, ds2, p2, q2, rfl, rfl, rfl, h2, r2⟩ := trodAll_cons r1
  obtain ⟨rfl, rfl, rfl⟩ := trodAll_nil r2
  obtain rfl : args = #[v0, v1, v2] := by cases args; simp_all
  obtain ⟨rfl, rfl⟩ := trodVars_none hV
  have k0 := h0
  have lt0 : ∀ x ∈ p0, x.block < W.heap.size := by obtain ⟨m, hm⟩ := k0; exact DataW.trod_lt m _ _ _ hm
  obtain ⟨a0, rfl, w0⟩ := open_pairV (hval 0 23 v0 rfl rfl) h0
  obtain ⟨a1, len1, cap1, rfl⟩ := okWide_slice Try.underlying22 (hval 1 22 v1 rfl rfl)
  have k1 := h1
  have lt1 : ∀ x ∈ p1, x.block < W.heap.size := by obtain ⟨m, hm⟩ := k1; exact DataW.trod_lt m _ _ _ hm
  obtain ⟨l1, hlen1, w1⟩ : ∃ l : List Ed, l.length = len1 ∧ EdIn W a1 l ∧ l.length ≤ maxLen := by
    obtain ⟨fuel, hf⟩ := h1
    exact open_edges hf
  subst hlen1
  obtain ⟨a2, len2, cap2, rfl⟩ := okWide_slice Try.underlying22 (hval 2 22 v2 rfl rfl)
  have k2 := h2
  have lt2 : ∀ x ∈ p2, x.block < W.heap.size := by obtain ⟨m, hm⟩ := k2; exact DataW.trod_lt m _ _ _ hm
  obtain ⟨l2, hlen2, w2⟩ : ∃ l : List Ed, l.length = len2 ∧ EdIn W a2 l ∧ l.length ≤ maxLen := by
    obtain ⟨fuel, hf⟩ := h2
    exact open_edges hf
  subst hlen2
  clear hA0 hval0
  refine (walk_list a0 a1 cap1 l1 a2 cap2 l2 W w0 w1.1 w1.2 w2.1 w2.2).mono fun e W' ⟨he, bel⟩ => ?_
  subst he
  exact ⟨_, rfl, _, _, _, [], _, [], hW', trodAll_mk1 (shut_bool Try.underlying4 _), (trodAll_cons_mk (Below.trod laidOut (by kernel_rfl) (of_decide_eq_true (by kernel_rfl)) k0 bel lt0) (trodAll_cons_mk (Below.trod laidOut (by kernel_rfl) (of_decide_eq_true (by kernel_rfl)) k1 bel lt1) (trodAll_cons_mk (Below.trod laidOut (by kernel_rfl) (of_decide_eq_true (by kernel_rfl)) k2 bel lt2) trodAll_mk0))), rfl, bel.frame _, fun h => by cases h⟩
theorem over : Rows.netSameRow.holds Try.pinned (OpenSpec.ofChange Rows.netSameSpec) :=
  OpenClaim.holds_of_wide 4 Try.f4 rfl rfl rfl rfl rfl rfl rfl ⟨rfl, rfl, rfl, rfl, rfl⟩ rfl rfl rfl rfl rfl (by kernel_rfl) Try.func4 (by kernel_rfl)
    (of_decide_eq_true (by kernel_rfl)) (by unfold Func.isWrapper; first | (rw [if_pos (by decide +kernel)]; kernel_rfl) | (rw [if_neg (by decide +kernel)]; exact ⟨rfl, rfl⟩))
    (fun os started H enc _ => lifted os started H enc)
/-- The statement. -/
theorem proved : Rows.NetSameSaid := over
#print axioms proved

end Go.Proofs.Ytibjpoadpciiaaa.netSame
