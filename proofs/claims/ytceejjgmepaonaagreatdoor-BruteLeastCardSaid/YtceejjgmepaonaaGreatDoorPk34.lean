/- Texts that the laws of this seat stand on, part 34. -/
import Derived.Test.YtceejjgmepaonaaGreatDoorPk33
import Derived.BigQuiet
import Derived.Test.YtceejjgmepaonaaGreatDoorPk32
import Derived.Test.YtceejjgmepaonaaGreatDoorPk30
import Derived.Test.YtceejjgmepaonaaGreatDoorPk31
import Derived.Test.YtceejjgmepaonaaGreatDoorPk7
import Derived.Test.YtceejjgmepaonaaGreatDoorPk6
import Derived.BigRegion
import Derived.Deep.RegionWith
/- The document's Merge: one by one. -/
namespace Go.Proofs.YtceejjgmepaonaaGreatDoor
open Go.RowKit Go.ChangeShapes EdPure NumPure
def RmRel (w0 : World) (l : List Ed) (k : Nat) (M : List Ed) (q : Option Addr) (wr : World) : Prop := k ≤ l.length ∧ Below w0.heap.size w0 wr ∧ gathM (l.take k) = some M ∧ ReadsE wr.heap.size wr q M
theorem nonz_take {M : List Ed} {k : Nat} (hk : k < M.length) : nonz (M.take (k + 1)) = nonz (M.take k) ++ (if M[k].2.2 = 0 then [] else [M[k]]) := by
  rw [List.take_succ_eq_append_getElem hk]
  unfold nonz
  rw [List.filter_append]
  congr 1
  by_cases h : M[k].2.2 = 0
  · rw [if_pos h]; simp [h]
  · rw [if_neg h]; simp [h]
theorem nonz_len {M : List Ed} (k : Nat) : (nonz (M.take k)).length ≤ M.length := by
  unfold nonz
  have := List.length_filter_le (fun x : Ed => decide (x.2.2 ≠ 0)) (M.take k)
  rw [List.length_take] at this
  omega
def NzRel (w3 : World) (M : List Ed) (k : Nat) (s : Value) (wr : World) : Prop := k ≤ M.length ∧ GrowE w3 (nonz (M.take k)) s wr
set_option maxRecDepth 100000 in
set_option maxHeartbeats 1600000 in
theorem refMerge_any (a : Option Addr) (c : Nat) (l : List Ed) (hl : l.length ≤ 100000) (hI : InL l) (w : World) (hR : ReadsE w.heap.size w a l) :
    Calls Tryz.prog 26 #[.slice a l.length c] w fun e w' => AggOut (mergeE l) w e w' := by
  have HR := Lib.hid hR
  have HI := Lib.hid hI
  have HB0 : Hid (Below w.heap.size w (w.alloc (.cells #[.slice none 0 0, .bool false] 78))) := Lib.hid ((Below.refl _ _).alloc (Nat.le_refl _) _)
  have HF0 : Hid (TwoAt w.heap.size (w.alloc (.cells #[.slice none 0 0, .bool false] 78)) (.slice none 0 0) (.bool false)) := Lib.hid (TwoAt.new _ _ _ _)
  clear hR hI
  go_enter Tryz.func26, Tryz.ntmps26
  go_wp2
  generalize w.alloc (.cells #[.slice none 0 0, .bool false] 78) = w0 at *
  obtain ⟨N, hN⟩ : ∃ N, N = w.heap.size := ⟨_, rfl⟩
  rw [← hN] at HF0 ⊢
  have HNN := Lib.hid hN
  clear hN
  go_loopw [3, 4] (fun s i wr => ∃ (k : Nat) (M : List Ed) (q : Option Addr) (cap : Nat), s = .slice q M.length cap ∧ i = .int .i64 k ∧ Hid (RmRel w0 l k M q wr)) (fun _ i _ => l.length - (intOf i).toNat)
  case atStart => exact ⟨0, [], none, 0, rfl, rfl, Lib.hid ⟨Nat.zero_le _, Below.refl _ _, by rw [List.take_zero]; rfl, Or.inl rfl⟩⟩
  case round =>
    obtain ⟨k, M, q, cap, rfl, rfl, HK⟩ := hrel
    have i0 : (0 : Int) ≤ (k : Int) := by omega
    have HBr : Hid (Below w.heap.size w wr) := Lib.hid (HB0.out.trans (HK.out.2.1.mono HB0.out.size))
    have HG := Lib.hid (gath_upto HI.out k HK.out.1 HK.out.2.2.1)
    by_cases hlt : k < l.length
    · have i1 : (k : Int) < (l.length : Int) := by omega
      obtain ⟨u, v, x, he⟩ : ∃ u v x, l[k] = (u, v, x) := ⟨_, _, _, rfl⟩
      obtain ⟨b, off, rfl, hbw, hbr, c0, c1, c2⟩ := HR.out.cells hlt HBr.out he
      have hin : InE (u, v, x) := by have := HI.out.at hlt; rwa [he] at this
      have hst : gathM (l.take (k + 1)) = stepM (some M) (u, v, x) := by rw [gath_take hlt, HK.out.2.2.1, he]
      clear he
      by_cases huv : u = v
      · subst huv
        have HS : Hid (gathM (l.take (k + 1)) = some M) := Lib.hid (by rw [hst]; unfold stepM; simp)
        clear hst hin
        go_wp2
        go_quiet (fail)
        go_wp2
        exact ⟨⟨k + 1, M, q, cap, rfl, by go_num, Lib.hid ⟨hlt, below_drewN HK.out.2.1 _, HS.out, HK.out.2.2.2.over (below_drewN (Below.refl _ _) _) (Nat.le_refl _)⟩⟩, by simp [intOf]; omega⟩
      · have t : (u != v) = true := by simpa using huv
        have hst2 : gathM (l.take (k + 1)) = addL M (normE (u, v, x)) := by rw [hst]; unfold stepM; simp [huv]
        have hnin := norm_in hin
        obtain ⟨z1, z2, z3⟩ : ∃ z, z = normE (u, v, x) := ⟨_, rfl⟩
        have HN := Lib.hid (fun W => refNormal_any (u, v, x) W)
        have HS := Lib.hid (And.intro hst2 hnin)
        generalize normE (u, v, x) = z at *
        obtain ⟨p, r, y⟩ := z
        unfold encE at HN
        simp only at HN
        clear hst hst2 hin hnin huv
        go_wp2
        go_quiet (fail)
        go_wp2_with fail
        have HW := Lib.hid (And.intro (below_drewN HK.out.2.1 nq) (HK.out.2.2.2.over (below_drewN (Below.refl _ _) nq) (Nat.le_refl _)))
        generalize wr.drewN nq = W1 at *
        refine (HN.out _).mono ?_
        rintro e w1 ⟨rfl, hb1⟩
        have hM6 : M.length ≤ 1000000 := by have := HG.out.2; have := HK.out.1; omega
        have HA := Lib.hid (refAddE_any q cap M hM6 HG.out.1 (p, r, y) HS.out.2 w1 (HW.out.2.over hb1 (Nat.le_refl _)))
        have HB1 := Lib.hid (HW.out.1.trans (hb1.mono HW.out.1.size))
        clear hb1 HN hM6
        go_wp2_with fail
        refine HA.out.mono ?_
        rintro e w2 ⟨hb2, ⟨hn, rfl⟩ | ⟨M', q', cap', hs, rfl, hr⟩⟩
        · have HX : Hid (mergeE l = none) := Lib.hid (by unfold mergeE; rw [gath_stays (k + 1) (HS.out.1.trans hn)]; rfl)
          have hB2 := HB1.out.trans (hb2.mono HB1.out.size)
          have hB5 := hB2.alloc hB2.size (.cells #[.slice none 0 0, .bool false] 78)
          have hF5 := HF0.out.on hB5 HF0.out.lt
          have hR5 := TwoAt.new w2 (.slice none 0 0) (.bool false) 78
          clear hb2 hn hB2 HA
          go_upto_region 7 with fail
          generalize w2.alloc (.cells #[.slice none 0 0, .bool false] 78) = w5 at *
          have HB5 : Hid (Below w.heap.size w w5) := Lib.hid (HB0.out.trans (hB5.mono HB0.out.size))
          obtain ⟨m0, m1, g0, g1⟩ := hF5
          obtain ⟨r0, r1, -, -⟩ := hR5
          clear hB5
          go_wp2
          refine bodyPost_ret (v := .agg #[.slice none 0 0, .bool false]) (by simp [results, Tryz.results26, go_sem, m0, m1]) rfl ⟨?_, Or.inl ⟨HX.out, rfl⟩⟩
          have hw := HNN.out
          exact (HB5.out.setCell (p := ⟨N, 0, none⟩) (show w.heap.size ≤ N by omega) _).setCell (p := ⟨N, 1, none⟩) (show w.heap.size ≤ N by omega) _
        · have HN2 : Hid (RmRel w0 l (k + 1) M' q' (w2.alloc (.cells #[.slice q' M'.length cap', .bool true] 78))) := Lib.hid (by
            have hB2 := HB1.out.trans (hb2.mono HB1.out.size)
            exact ⟨hlt, hB2.alloc hB2.size _, HS.out.1.trans hs, hr.over ((Below.refl _ _).alloc (Nat.le_refl _) _) (Nat.le_refl _)⟩)
          clear hb2 hs hr HA
          go_wp2
          exact ⟨⟨k + 1, M', q', cap', rfl, by go_num, HN2⟩, by simp [intOf]; omega⟩
    · have hk : k = l.length := by have := HK.out.1; omega
      subst hk
      have hg := HK.out.2.2.1
      rw [List.take_length] at hg
      have HX : Hid (mergeE l = some (nonz M)) := Lib.hid (by unfold mergeE; rw [hg]; rfl)
      have HM := Lib.hid HK.out.2.2.2
      have HB3 := Lib.hid HK.out.2.1
      have hMl : M.length ≤ 100000 := by have := HG.out.2; omega
      have HS : Hid (NzRel wr M 0 (.slice none 0 0) wr) := Lib.hid ⟨Nat.zero_le _, by rw [List.take_zero]; exact GrowE.start wr⟩
      clear hg HR
      go_wp2
      obtain ⟨W3, hW3⟩ : ∃ W3, W3 = wr := ⟨_, rfl⟩
      subst hW3
      go_loopw [6, 7] (fun s i wr => ∃ (j : Nat) (s' : Value), s' = s ∧ i = .int .i64 j ∧ Hid (NzRel W3 M j s' wr)) (fun _ i _ => M.length - (intOf i).toNat)
      case atStart => exact ⟨0, _, rfl, rfl, HS⟩
      case round =>
        obtain ⟨j, s, rfl, rfl, HJ⟩ := hrel
        clear HS
        have i0 : (0 : Int) ≤ (j : Int) := by omega
        have hlG : (nonz (M.take j)).length ≤ 100000 := Nat.le_trans (nonz_len j) hMl
        have hbs : W3.heap.size ≤ wr.heap.size := HJ.out.2.1.size
        obtain ⟨i9, hi, hz0, hz1, hz2⟩ := info_edge
        by_cases hjl : j < M.length
        · have i1 : (j : Int) < (M.length : Int) := by omega
          obtain ⟨u, v, x, he⟩ : ∃ u v x, M[j] = (u, v, x) := ⟨_, _, _, rfl⟩
          obtain ⟨b, off, rfl, hbw, hbr, c0, c1, c2⟩ := HM.out.cells hjl HJ.out.2.1 he
          have hnz := nonz_take hjl
          rw [he] at hnz
          clear he
          by_cases hx : x = 0
          · have HN2 : Hid (NzRel W3 M (j + 1) s wr) := Lib.hid ⟨hjl, by rw [hnz, if_pos hx, List.append_nil]; exact HJ.out.2⟩
            have t : (x != 0) = false := by simp [hx]
            clear hnz hx
            go_wp2
            exact ⟨⟨j + 1, s, rfl, by go_num, HN2⟩, by simp [intOf]; omega⟩
          · have HN2 : Hid (nonz (M.take (j + 1)) = nonz (M.take j) ++ [(u, v, x)]) := Lib.hid (by rw [hnz, if_neg hx])
            have t : (x != 0) = true := by simpa using hx
            clear hnz hx
            go_wp2_with (first
              | (at_builtin; refine wpList_append_own _ rfl _ _ 22 rfl W3.heap.size 51 i9 (.agg #[.int .i64 0, .int .i64 0, .int .i64 0]) 3 24 Tryz.underlying22 hi hz0 hz1 hz2 rfl (by decide) s (nonz (M.take j)).length (flatE (nonz (M.take j))) rfl (HJ.out.2.2.alloc _) ⟨wr.heap.size, 0, none⟩ 1 1 (cellE (u, v, x)) rfl rfl (three_newsAt rfl) ones_edge (by unfold maxLen; omega) (by omega) (by simp; omega) ?_; intro s3 w3 hown hg _; have HZ := Lib.hid (HJ.out.2.step (u, v, x) hown hg); clear hown hg))
            exact ⟨⟨j + 1, s3, rfl, by go_num, Lib.hid ⟨hjl, by rw [HN2.out]; exact HZ.out⟩⟩, by simp [intOf]; omega⟩
        · have hj : j = M.length := by have := HJ.out.1; omega
          subst hj
          have HT : Hid (M.take M.length = M) := Lib.hid List.take_length
          have hG := HJ.out.2
          rw [HT.out] at hG
          have hb5 := HB3.out.trans (hG.1.mono HB3.out.size)
          have HB5 : Hid (Below w.heap.size w wr) := Lib.hid (HB0.out.trans (hb5.mono HB0.out.size))
          obtain ⟨m0, m1, g0, g1⟩ := HF0.out.on hb5 HF0.out.lt
          have hNb : N < W3.heap.size := Nat.lt_of_lt_of_le HF0.out.lt HB3.out.size
          obtain ⟨q3, cap3, rfl, -, -⟩ := hG.reads
          have HG3 := Lib.hid hG.2
          clear hG hb5
          go_wp2
          refine bodyPost_ret (v := .agg #[.slice q3 (nonz M).length cap3, .bool true]) (by simp [results, Tryz.results26, go_sem, m0, m1]) rfl ⟨?_, Or.inr ⟨nonz M, q3, cap3, HX.out, rfl, own_agg HG3.out hNb _ _⟩⟩
          have hw := HNN.out
          exact (HB5.out.setCell (p := ⟨N, 0, none⟩) (show w.heap.size ≤ N by omega) _).setCell (p := ⟨N, 1, none⟩) (show w.heap.size ≤ N by omega) _
end Go.Proofs.YtceejjgmepaonaaGreatDoor
/- The document's New of a graph. -/
namespace Go.Proofs.YtceejjgmepaonaaGreatDoor
open Go.RowKit Go.ChangeShapes EdPure NtPure NumPure
@[go_sem] theorem merged_l (x y : Value) (w : World) : (Instr.field 78 (.agg #[x, y]) 0).run Tryz.prog w = .ok x w := by kernel_rfl
/-- Four cells of one block. -/
def QuadAt (N : Nat) (w : World) (a b c d : Value) : Prop := RowIs N w [a, b, c, d]
theorem QuadAt.cells {N : Nat} {w : World} {a b c d : Value} (h : QuadAt N w a b c d) :
    (w.cell? ⟨N, 0, none⟩ = some a ∧ w.cell? ⟨N, 1, none⟩ = some b ∧ w.cell? ⟨N, 2, none⟩ = some c ∧ w.cell? ⟨N, 3, none⟩ = some d) ∧
    (w.frozen? ⟨N, 0, none⟩ = false ∧ w.frozen? ⟨N, 1, none⟩ = false ∧ w.frozen? ⟨N, 2, none⟩ = false ∧ w.frozen? ⟨N, 3, none⟩ = false) :=
  ⟨⟨(h 0 (by simp)).1, (h 1 (by simp)).1, (h 2 (by simp)).1, (h 3 (by simp)).1⟩, (h 0 (by simp)).2, (h 1 (by simp)).2, (h 2 (by simp)).2, (h 3 (by simp)).2⟩
theorem QuadAt.lt {N : Nat} {w : World} {a b c d : Value} (h : QuadAt N w a b c d) : N < w.heap.size := RowIs.lt h (by simp)
theorem QuadAt.new (w : World) (a b c d : Value) (T : TypeId) : QuadAt w.heap.size (w.alloc (.cells #[a, b, c, d] T)) a b c d := by
  intro i hi
  match i, hi with
  | 0, _ => exact ⟨by simp, by simp⟩
  | 1, _ => exact ⟨by simp, by simp⟩
  | 2, _ => exact ⟨by simp, by simp⟩
  | 3, _ => exact ⟨by simp, by simp⟩
theorem QuadAt.set {N : Nat} {w : World} {a b c d : Value} (h : QuadAt N w a b c d) (x y z u : Value) : QuadAt N ((((w.setCell ⟨N, 0, none⟩ x).setCell ⟨N, 1, none⟩ y).setCell ⟨N, 2, none⟩ z).setCell ⟨N, 3, none⟩ u) x y z u :=
  RowIs.set (RowIs.set (RowIs.set (RowIs.set h (k := 0) (by simp) x) (k := 1) (by simp) y) (k := 2) (by simp) z) (k := 3) (by simp) u
theorem QuadAt.on {N M : Nat} {w w' : World} {a b c d : Value} (h : QuadAt N w a b c d) (hb : Below M w w') (hM : N < M) : QuadAt N w' a b c d := RowIs.on h hb hM
/-- Edges do not lie in a block of a number, a list and two numbers. -/
theorem quad_apart {N R : Nat} {w : World} {x y z : Value} {q : Option Addr} {M : List Ed} (h : QuadAt R w x (.slice none 0 0) y z) (hn : ∀ i, 4 ≤ i → w.cell? ⟨R, i, none⟩ = none) (hr : ReadsE N w q M) (hN : N ≤ w.heap.size) (x1 x2 x3 x4 : Value) :
    ReadsE ((((w.setCell ⟨R, 0, none⟩ x1).setCell ⟨R, 1, none⟩ x2).setCell ⟨R, 2, none⟩ x3).setCell ⟨R, 3, none⟩ x4).heap.size ((((w.setCell ⟨R, 0, none⟩ x1).setCell ⟨R, 1, none⟩ x2).setCell ⟨R, 2, none⟩ x3).setCell ⟨R, 3, none⟩ x4) q M := by
  by_cases h0 : M = []
  · exact Or.inl h0
  obtain ⟨⟨c0, c1, c2, c3⟩, -⟩ := h.cells
  rcases hr with hr | ⟨b, off, rfl, hb, hc⟩
  · exact absurd hr h0
  have hl : 0 < M.length := List.length_pos_iff.2 h0
  have hne : b ≠ R := by
    rintro rfl
    obtain ⟨e0, e1, e2⟩ := hc 0 hl
    simp only [Nat.zero_mul, Nat.add_zero] at e0 e1 e2
    by_cases h2 : 4 ≤ off + 2
    · rw [hn _ h2] at e2; cases e2
    · have : off = 0 ∨ off = 1 := by omega
      rcases this with rfl | rfl
      · rw [c1] at e1; cases e1
      · rw [c1] at e0; cases e0
  have hcell : ∀ i, ((((w.setCell ⟨R, 0, none⟩ x1).setCell ⟨R, 1, none⟩ x2).setCell ⟨R, 2, none⟩ x3).setCell ⟨R, 3, none⟩ x4).cell? ⟨b, i, none⟩ = w.cell? ⟨b, i, none⟩ := fun i => by
    rw [World.cell?_setCell_other _ ⟨R, 3, none⟩ ⟨b, i, none⟩ _ (fun e => hne (congrArg Addr.block e).symm), World.cell?_setCell_other _ ⟨R, 2, none⟩ ⟨b, i, none⟩ _ (fun e => hne (congrArg Addr.block e).symm), World.cell?_setCell_other _ ⟨R, 1, none⟩ ⟨b, i, none⟩ _ (fun e => hne (congrArg Addr.block e).symm), World.cell?_setCell_other _ ⟨R, 0, none⟩ ⟨b, i, none⟩ _ (fun e => hne (congrArg Addr.block e).symm)]
  refine Or.inr ⟨b, off, rfl, by simp; omega, fun i hi => ?_⟩
  rw [hcell, hcell, hcell]
  exact hc i hi
def RefOut (n : Int) (l : List Ed) (w : World) (e : Ending) (w' : World) : Prop :=
  Below w.heap.size w w' ∧ (((errN n l).1 ≠ 0 ∧ e = .returned (.agg #[.int .i64 0, .slice none 0 0, .int .i64 (errN n l).1, .int .i64 (errN n l).2])) ∨
    (errN n l = (0, 0) ∧ ∃ (M : List Ed) (q : Option Addr) (c : Nat), mergeE l = some M ∧ e = .returned (.agg #[.int .i64 n, .slice q M.length c, .int .i64 0, .int .i64 0]) ∧ ReadsE w'.heap.size w' q M))
theorem agg4 {x y : Value} {a b c d : Int} (h1 : a = b) (h2 : c = d) : Ending.returned (.agg #[x, y, .int .i64 a, .int .i64 c]) = .returned (.agg #[x, y, .int .i64 b, .int .i64 d]) := by rw [h1, h2]
set_option maxRecDepth 100000 in
set_option maxHeartbeats 1000000 in
theorem refNewN_any (n : Int) (a : Option Addr) (c : Nat) (l : List Ed) (hl : l.length ≤ 100000) (hI : InL l) (w : World) (hR : ReadsE w.heap.size w a l) :
    Calls Tryz.prog 7 #[.int .i64 n, .slice a l.length c] w fun e w' => RefOut n l w e w' := by
  have HR := Lib.hid hR
  have HI := Lib.hid hI
  have HB0 : Hid (Below w.heap.size w (w.alloc (.cells #[.int .i64 0, .slice none 0 0, .int .i64 0, .int .i64 0] 36))) := Lib.hid ((Below.refl _ _).alloc (Nat.le_refl _) _)
  have HQ0 : Hid (QuadAt w.heap.size (w.alloc (.cells #[.int .i64 0, .slice none 0 0, .int .i64 0, .int .i64 0] 36)) (.int .i64 0) (.slice none 0 0) (.int .i64 0) (.int .i64 0)) := Lib.hid (QuadAt.new _ _ _ _ _ _)
  have HX0 : Hid (∀ i, 4 ≤ i → (w.alloc (.cells #[.int .i64 0, .slice none 0 0, .int .i64 0, .int .i64 0] 36)).cell? ⟨w.heap.size, i, none⟩ = none) := Lib.hid fun i hi => by
    rw [World.cell?_alloc_at _ _ _ _ rfl]
    simp
    omega
  clear hR hI
  have fin : ∀ (W : World) (y1 y2 y3 y4 : Value), Below w.heap.size w W → QuadAt w.heap.size W y1 y2 y3 y4 → ∀ x1 x2 x3 x4, Hid (Below w.heap.size w ((((W.setCell ⟨w.heap.size, 0, none⟩ x1).setCell ⟨w.heap.size, 1, none⟩ x2).setCell ⟨w.heap.size, 2, none⟩ x3).setCell ⟨w.heap.size, 3, none⟩ x4) ∧
      QuadAt w.heap.size ((((W.setCell ⟨w.heap.size, 0, none⟩ x1).setCell ⟨w.heap.size, 1, none⟩ x2).setCell ⟨w.heap.size, 2, none⟩ x3).setCell ⟨w.heap.size, 3, none⟩ x4) x1 x2 x3 x4) := fun W _ _ _ _ hb hq x1 x2 x3 x4 =>
    Lib.hid ⟨(((hb.setCell (p := ⟨w.heap.size, 0, none⟩) (Nat.le_refl _) x1).setCell (p := ⟨w.heap.size, 1, none⟩) (Nat.le_refl _) x2).setCell (p := ⟨w.heap.size, 2, none⟩) (Nat.le_refl _) x3).setCell (p := ⟨w.heap.size, 3, none⟩) (Nat.le_refl _) x4, hq.set x1 x2 x3 x4⟩
  have FIN := Lib.hid fin
  clear fin
  by_cases h1 : n < 0
  · have HE : Hid (errN n l = (1, 0)) := Lib.hid (if_pos h1)
    go_enter Tryz.func7, Tryz.ntmps7
    go_upto_region 2 with fail
    generalize w.alloc (.cells #[.int .i64 0, .slice none 0 0, .int .i64 0, .int .i64 0] 36) = W at *
    obtain ⟨⟨c0, c1, c2, c3⟩, f0, f1, f2, f3⟩ := HQ0.out.cells
    have hlt := HQ0.out.lt
    have HF := FIN.out W _ _ _ _ HB0.out HQ0.out (.int .i64 0) (.slice none 0 0) (.int .i64 1) (.int .i64 0)
    go_wp2
    obtain ⟨⟨d0, d1, d2, d3⟩, -⟩ := HF.out.2.cells
    exact bodyPost_ret (v := .agg #[.int .i64 0, .slice none 0 0, .int .i64 1, .int .i64 0]) (by simp [results, Tryz.results7, go_sem, d0, d1, d2, d3]) rfl ⟨HF.out.1, Or.inl ⟨by rw [HE.out]; decide, agg4 (by rw [HE.out]) (by rw [HE.out])⟩⟩
  by_cases h2 : n > 4096
  · have HE : Hid (errN n l = (3, 0)) := Lib.hid (by unfold errN; rw [if_neg h1, if_pos (Or.inl h2)])
    go_enter Tryz.func7, Tryz.ntmps7
    go_upto_region 4 with fail
    generalize w.alloc (.cells #[.int .i64 0, .slice none 0 0, .int .i64 0, .int .i64 0] 36) = W at *
    obtain ⟨⟨c0, c1, c2, c3⟩, f0, f1, f2, f3⟩ := HQ0.out.cells
    have hlt := HQ0.out.lt
    have HF := FIN.out W _ _ _ _ HB0.out HQ0.out (.int .i64 0) (.slice none 0 0) (.int .i64 3) (.int .i64 0)
    go_wp2
    obtain ⟨⟨d0, d1, d2, d3⟩, -⟩ := HF.out.2.cells
    exact bodyPost_ret (v := .agg #[.int .i64 0, .slice none 0 0, .int .i64 3, .int .i64 0]) (by simp [results, Tryz.results7, go_sem, d0, d1, d2, d3]) rfl ⟨HF.out.1, Or.inl ⟨by rw [HE.out]; decide, agg4 (by rw [HE.out]) (by rw [HE.out])⟩⟩
  by_cases h3 : (l.length : Int) > 1048576
  · omega
  have HE : Hid (errN n l = chkL n l 0) := Lib.hid (by unfold errN; rw [if_neg h1, if_neg (by omega)])
  have HL : Hid (l.length ≤ 1048576) := Lib.hid (by omega)
  have HC := Lib.hid (fun w h => refChecks_any n a c l HL.out w h)
  obtain ⟨y, z, hyz⟩ : ∃ y z, chkL n l 0 = (y, z) := ⟨_, _, rfl⟩
  rw [hyz] at HC HE
  by_cases hy : y = 0
  · have hz := chkL_zero (n := n) (l := l) (by rw [hyz]; exact hy)
    rw [hyz] at hz
    simp only [Prod.mk.injEq] at hz
    obtain ⟨rfl, rfl⟩ := hz
    obtain ⟨M, hm, hg, hml⟩ := merged HI.out (chkL_good (by rw [hyz])) HL.out
    have HM := Lib.hid hm
    clear hm hg hml hyz hy
    go_enter Tryz.func7, Tryz.ntmps7
    go_upto_region 5 with fail
    generalize w.alloc (.cells #[.int .i64 0, .slice none 0 0, .int .i64 0, .int .i64 0] 36) = W at *
    go_wp2_with fail
    refine (HC.out W (HR.out.over HB0.out (Nat.le_refl _))).mono ?_
    rintro e w1 ⟨rfl, hb1⟩
    have hb2 : Below W.heap.size W (w1.alloc (.cells #[.int .i64 0, .int .i64 0] 75)) := hb1.alloc hb1.size _
    have HB2 := Lib.hid (HB0.out.trans (hb2.mono HB0.out.size))
    have HQ2 := Lib.hid (HQ0.out.on hb2 HQ0.out.lt)
    have HT2 := Lib.hid (TwoAt.new w1 (.int .i64 0) (.int .i64 0) 75)
    have HX2 : Hid (∀ i, 4 ≤ i → (w1.alloc (.cells #[.int .i64 0, .int .i64 0] 75)).cell? ⟨w.heap.size, i, none⟩ = none) := Lib.hid fun i hi => (hb2.cell (p := ⟨w.heap.size, i, none⟩) HQ0.out.lt).trans (HX0.out i hi)
    clear hb1 hb2 HB0 HQ0 HC HX0
    go_upto_region 6 with fail
    generalize w1.alloc (.cells #[.int .i64 0, .int .i64 0] 75) = W2 at *
    generalize w1.heap.size = T at *
    obtain ⟨t0, t1, -, -⟩ := HT2.out
    have htl := HT2.out.lt
    go_wp2_with fail
    refine (refMerge_any a c l hl HI.out W2 (HR.out.over HB2.out (Nat.le_refl _))).mono ?_
    rintro e w3 ⟨hb3, ⟨hn, -⟩ | ⟨A, q, cap, hs, rfl, hr⟩⟩
    · rw [HM.out] at hn; cases hn
    obtain rfl : M = A := Option.some.inj (HM.out.symm.trans hs)
    have HB3 := Lib.hid (HB2.out.trans (hb3.mono HB2.out.size))
    have HQ3 := Lib.hid (HQ2.out.on hb3 HQ2.out.lt)
    have HR3 := Lib.hid hr
    have HX3 : Hid (∀ i, 4 ≤ i → w3.cell? ⟨w.heap.size, i, none⟩ = none) := Lib.hid fun i hi => (hb3.cell (p := ⟨w.heap.size, i, none⟩) HQ2.out.lt).trans (HX2.out i hi)
    clear hb3 hr hs HB2 HQ2 t0 t1 htl
    obtain ⟨⟨c0, c1, c2, c3⟩, f0, f1, f2, f3⟩ := HQ3.out.cells
    have hlt := HQ3.out.lt
    have HF := FIN.out w3 _ _ _ _ HB3.out HQ3.out (.int .i64 n) (.slice q M.length cap) (.int .i64 0) (.int .i64 0)
    have HR4 := Lib.hid (quad_apart HQ3.out HX3.out HR3.out (Nat.le_refl _))
    go_wp2
    obtain ⟨⟨d0, d1, d2, d3⟩, -⟩ := HF.out.2.cells
    exact bodyPost_ret (v := .agg #[.int .i64 n, .slice q M.length cap, .int .i64 0, .int .i64 0]) (by simp [results, Tryz.results7, go_sem, d0, d1, d2, d3]) rfl ⟨HF.out.1, Or.inr ⟨HE.out, M, q, cap, HM.out, rfl, HR4.out _ _ _ _⟩⟩
  · have HY := Lib.hid hy
    have t : (y != 0) = true := by simpa using hy
    clear hyz hy
    go_enter Tryz.func7, Tryz.ntmps7
    go_upto_region 5 with fail
    generalize w.alloc (.cells #[.int .i64 0, .slice none 0 0, .int .i64 0, .int .i64 0] 36) = W at *
    go_wp2_with fail
    refine (HC.out W (HR.out.over HB0.out (Nat.le_refl _))).mono ?_
    rintro e w1 ⟨rfl, hb1⟩
    have hb2 : Below W.heap.size W (w1.alloc (.cells #[.int .i64 y, .int .i64 z] 75)) := hb1.alloc hb1.size _
    have HB2 := Lib.hid (HB0.out.trans (hb2.mono HB0.out.size))
    have HQ2 := Lib.hid (HQ0.out.on hb2 HQ0.out.lt)
    have HT2 := Lib.hid (TwoAt.new w1 (.int .i64 y) (.int .i64 z) 75)
    clear hb1 hb2 HB0 HQ0 HC
    go_upto_region 6 with fail
    generalize w1.alloc (.cells #[.int .i64 y, .int .i64 z] 75) = W2 at *
    generalize w1.heap.size = T at *
    obtain ⟨t0, t1, -, -⟩ := HT2.out
    have htl := HT2.out.lt
    obtain ⟨⟨c0, c1, c2, c3⟩, f0, f1, f2, f3⟩ := HQ2.out.cells
    have hlt := HQ2.out.lt
    have HF := FIN.out W2 _ _ _ _ HB2.out HQ2.out (.int .i64 0) (.slice none 0 0) (.int .i64 y) (.int .i64 z)
    go_wp2
    obtain ⟨⟨d0, d1, d2, d3⟩, -⟩ := HF.out.2.cells
    exact bodyPost_ret (v := .agg #[.int .i64 0, .slice none 0 0, .int .i64 y, .int .i64 z]) (by simp [results, Tryz.results7, go_sem, d0, d1, d2, d3]) rfl ⟨HF.out.1, Or.inl ⟨by rw [HE.out]; exact HY.out, agg4 (by rw [HE.out]) (by rw [HE.out])⟩⟩
end Go.Proofs.YtceejjgmepaonaaGreatDoor
/- What both News answer, told in one form for a graph and for none. -/
namespace Go.Proofs.YtceejjgmepaonaaGreatDoor
open Go.RowKit Go.ChangeShapes EdPure NtPure NumPure
/-- A graph, or why there is none. -/
def Kind (n : Int) (l : List Ed) (p : Option Addr) (N : Nat) (M : List Ed) : Prop :=
  (errN n l).1 ≠ 0 ∧ p = none ∧ N = 0 ∧ M = [] ∨ errN n l = (0, 0) ∧ (∃ g, p = some ⟨g, 0, none⟩) ∧ n = N ∧ mergeE l = some M
def NewU (n : Int) (l : List Ed) (w : World) (e : Ending) (w' : World) : Prop :=
  Below w.heap.size w w' ∧ ∃ (p : Option Addr) (N : Nat) (M : List Ed), e = .returned (.tuple #[.pointer p, .int .i64 (errN n l).1, .int .i64 (errN n l).2]) ∧ NetAt p N M w' ∧ (N ≤ 4096 ∧ M.length ≤ 1048576 ∧ GoodN N M) ∧ Kind n l p N M
theorem GoodN.nil (n : Int) : GoodN n [] := ⟨GoodM.nil, by simp, by simp [allW]⟩
theorem newU_any (n : Int) (a : Option Addr) (c : Nat) (l : List Ed) (hI : InL l) (w : World) (hR : ReadsE w.heap.size w a l) :
    Calls Tryz.prog 5 #[.int .i64 n, .slice a l.length c] w fun e w' => NewU n l w e w' := by
  refine (newNet_any n a c l hI w hR).mono ?_
  rintro e w' ⟨hb, ⟨hne, rfl⟩ | ⟨hz, N, M, g, rfl, hN, hg, h1, h2, hm, rfl, hn⟩⟩
  · exact ⟨hb, none, 0, [], rfl, NetAt.nil _, ⟨by omega, by simp, GoodN.nil _⟩, Or.inl ⟨hne, rfl, rfl, rfl⟩⟩
  · exact ⟨hb, some ⟨g, 0, none⟩, N, M, by rw [hz], hn, ⟨hN, by omega, hg⟩, Or.inr ⟨hz, ⟨g, rfl⟩, rfl, hm⟩⟩
def RefU (n : Int) (l : List Ed) (w : World) (e : Ending) (w' : World) : Prop :=
  Below w.heap.size w w' ∧ ∃ (x : Int) (q : Option Addr) (c : Nat) (M : List Ed), e = .returned (.agg #[.int .i64 x, .slice q M.length c, .int .i64 (errN n l).1, .int .i64 (errN n l).2]) ∧ ReadsE w'.heap.size w' q M ∧
    ((errN n l).1 ≠ 0 ∧ x = 0 ∧ M = [] ∨ errN n l = (0, 0) ∧ x = n ∧ mergeE l = some M)
theorem refU_any (n : Int) (a : Option Addr) (c : Nat) (l : List Ed) (hl : l.length ≤ 100000) (hI : InL l) (w : World) (hR : ReadsE w.heap.size w a l) :
    Calls Tryz.prog 7 #[.int .i64 n, .slice a l.length c] w fun e w' => RefU n l w e w' := by
  refine (refNewN_any n a c l hl hI w hR).mono ?_
  rintro e w' ⟨hb, ⟨hne, rfl⟩ | ⟨hz, M, q, c', hm, rfl, hr⟩⟩
  · exact ⟨hb, 0, none, 0, [], rfl, Or.inl rfl, Or.inl ⟨hne, rfl, rfl⟩⟩
  · exact ⟨hb, n, q, c', M, by rw [hz], hr, Or.inr ⟨hz, rfl, hm⟩⟩
end Go.Proofs.YtceejjgmepaonaaGreatDoor
/- The document's own look whether two lists of lists are the same. -/
namespace Go.Proofs.YtceejjgmepaonaaGreatDoor.Ds
open Go.RowKit Go.ChangeShapes
theorem _root_.Go.Proofs.YtceejjgmepaonaaGreatDoor.RowsAt.at {M : Nat} {w : World} {a : Option Addr} {L : List (List Int)} (h : RowsAt M w a L) {k : Nat} (hk : k < L.length) :
    ∃ b off q c, a = some ⟨b, off, none⟩ ∧ b < w.heap.size ∧ w.cell? ⟨b, off + k, none⟩ = some (.slice q L[k].length c) ∧ ReadsL encZ w.heap.size w q L[k] := by
  rcases h with h | ⟨b, off, ha, -, hN, hc⟩
  · subst h; simp at hk
  · obtain ⟨q, c, h1, h2, -⟩ := hc k L[k] (List.getElem?_eq_getElem hk)
    exact ⟨b, off, q, c, ha, hN, h1, h2⟩
/-- Lists that are the same are told so. -/
theorem lists_true (M M' : Nat) (a a' : Option Addr) (c1 c2 : Nat) (L : List (List Int)) (w : World) (h1 : RowsAt M w a L) (h2 : RowsAt M' w a' L) (hl1 : L.length ≤ 1000000) (hl2 : ∀ l ∈ L, l.length ≤ 1000000) :
    Calls Tryz.prog 13 #[.slice a L.length c1, .slice a' L.length c2] w fun e w' => e = .returned (.bool true) ∧ ∃ m, w' = w.drewN m := by
  have H1 := Lib.hid h1
  have H2 := Lib.hid h2
  have H3 := Lib.hid hl2
  clear h1 h2 hl2
  have t : ((L.length : Int) != (L.length : Int)) = false := bne_self_eq_false _
  go_enter Tryz.func13, Tryz.ntmps13
  go_wp2
  go_loopw [5] (fun i wr => ∃ k m : Nat, i = .int .i64 k ∧ k ≤ L.length ∧ wr = w.drewN m) (fun i _ => L.length - (intOf i).toNat)
  case atStart => exact ⟨0, 0, rfl, Nat.zero_le _, rfl⟩
  case round =>
    obtain ⟨k, m, rfl, hk, rfl⟩ := hrel
    have i0 : (0 : Int) ≤ (k : Int) := by omega
    by_cases hlt : k < L.length
    · have i1 : (k : Int) < (L.length : Int) := by omega
      obtain ⟨b, off, q, c, rfl, hbN, d1, hr1⟩ := H1.out.at hlt
      obtain ⟨b', off', q', c', rfl, hbN', d2, hr2⟩ := H2.out.at hlt
      have hle := H3.out _ (List.getElem_mem hlt)
      have HD1 : Hid (∀ j, ReadsL encZ (w.drewN j).heap.size (w.drewN j) q L[k]) := Lib.hid fun j => ReadsL.over hr1 (below_drewN (Below.refl _ _) j) (Nat.le_refl _)
      have HD2 : Hid (∀ j, ReadsL encZ (w.drewN j).heap.size (w.drewN j) q' L[k]) := Lib.hid fun j => ReadsL.over hr2 (below_drewN (Below.refl _ _) j) (Nat.le_refl _)
      clear hr1 hr2
      generalize L[k] = l at *
      go_wp2_with fail
      go_region_with (go_at_call 15; refine (ints_any q q' c c' l l _ (HD1.out _) (HD2.out _) (Nat.le_trans hle (by omega))).mono ?_; rintro e w1 ⟨rfl, m1, rfl⟩; rw [decide_eq_true (rfl : l = l)])
      all_goals go_wp2
      all_goals go_roundw
      all_goals first
        | exact ⟨k + 1, _, by go_num, by omega, rfl⟩
        | (simp [intOf] <;> omega)
    · have hge : ¬ (k : Int) < (L.length : Int) := by omega
      go_wp2
      go_ret
      exact ⟨rfl, _, rfl⟩
end Go.Proofs.YtceejjgmepaonaaGreatDoor.Ds
