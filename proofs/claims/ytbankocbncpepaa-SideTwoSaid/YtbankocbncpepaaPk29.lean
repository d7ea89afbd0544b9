/- The document's Merge: one by one. -/
import Derived.Test.YtbankocbncpepaaPk28
import Derived.BigQuiet
namespace Go.Proofs.Ytbankocbncpepaa
open Go.RowKit Go.ChangeShapes EdPure NumPure
def RmRel (w0 : World) (l : List Ed) (k : Nat) (M : List Ed) (q : Option Addr) (wr : World) : Prop := k ≤ l.length ∧ Below w0.heap.size w0 wr ∧ gathM (l.take k) = some M ∧ ReadsE wr.heap.size wr q M
theorem nonz_take {M : List Ed} {k : Nat} (hk : k < M.length) : nonz (M.take (k + 1)) = nonz (M.take k) ++ (if M[k].2.2 = 0 then [] else [M[k]]) := by
  rw [List.take_succ_eq_append_getElem hk]
  unfold nonz
  rw [List.filter_append]
  congr 1
  by_cases h : M[k].2.2 = 0
  · rw [if_pos h]; simp [h]
  · rw [if_neg h]; simp [h]
theorem nonz_len {M : List Ed} (k : Nat) : (nonz (M.take k)).length ≤ M.length := by
  unfold nonz
  have := List.length_filter_le (fun x : Ed => decide (x.2.2 ≠ 0)) (M.take k)
  rw [List.length_take] at this
  omega
def NzRel (w3 : World) (M : List Ed) (k : Nat) (s : Value) (wr : World) : Prop := k ≤ M.length ∧ GrowE w3 (nonz (M.take k)) s wr
set_option maxRecDepth 100000 in
set_option maxHeartbeats 1600000 in
theorem refMerge_any (a : Option Addr) (c : Nat) (l : List Ed) (hl : l.length ≤ 100000) (hI : InL l) (w : World) (hR : ReadsE w.heap.size w a l) :
    Calls Try.prog 30 #[.slice a l.length c] w fun e w' => AggOut (mergeE l) w e w' := by
  have HR := Lib.hid hR
  have HI := Lib.hid hI
  have HB0 : Hid (Below w.heap.size w (w.alloc (.cells #[.slice none 0 0, .bool false] 77))) := Lib.hid ((Below.refl _ _).alloc (Nat.le_refl _) _)
  have HF0 : Hid (TwoAt w.heap.size (w.alloc (.cells #[.slice none 0 0, .bool false] 77)) (.slice none 0 0) (.bool false)) := Lib.hid (TwoAt.new _ _ _ _)
  clear hR hI
  go_enter Try.func30, Try.ntmps30
  go_wp2
  generalize w.alloc (.cells #[.slice none 0 0, .bool false] 77) = w0 at *
  obtain ⟨N, hN⟩ : ∃ N, N = w.heap.size := ⟨_, rfl⟩
  rw [← hN] at HF0 ⊢
  have HNN := Lib.hid hN
  clear hN
  go_loopw [3, 4] (fun s i wr => ∃ (k : Nat) (M : List Ed) (q : Option Addr) (cap : Nat), s = .slice q M.length cap ∧ i = .int .i64 k ∧ Hid (RmRel w0 l k M q wr)) (fun _ i _ => l.length - (intOf i).toNat)
  case atStart => exact ⟨0, [], none, 0, rfl, rfl, Lib.hid ⟨Nat.zero_le _, Below.refl _ _, by rw [List.take_zero]; rfl, Or.inl rfl⟩⟩
  case round =>
    obtain ⟨k, M, q, cap, rfl, rfl, HK⟩ := hrel
    have i0 : (0 : Int) ≤ (k : Int) := by omega
    have HBr : Hid (Below w.heap.size w wr) := Lib.hid (HB0.out.trans (HK.out.2.1.mono HB0.out.size))
    have HG := Lib.hid (gath_upto HI.out k HK.out.1 HK.out.2.2.1)
    by_cases hlt : k < l.length
    · have i1 : (k : Int) < (l.length : Int) := by omega
      obtain ⟨u, v, x, he⟩ : ∃ u v x, l[k] = (u, v, x) := ⟨_, _, _, rfl⟩
      obtain ⟨b, off, rfl, hbw, hbr, c0, c1, c2⟩ := HR.out.cells hlt HBr.out he
      have hin : InE (u, v, x) := by have := HI.out.at hlt; rwa [he] at this
      have hst : gathM (l.take (k + 1)) = stepM (some M) (u, v, x) := by rw [gath_take hlt, HK.out.2.2.1, he]
      clear he
      by_cases huv : u = v
      · subst huv
        have HS : Hid (gathM (l.take (k + 1)) = some M) := Lib.hid (by rw [hst]; unfold stepM; simp)
        clear hst hin
        go_wp2
        go_quiet (fail)
        go_wp2
        exact ⟨⟨k + 1, M, q, cap, rfl, by go_num, Lib.hid ⟨hlt, below_drewN HK.out.2.1 _, HS.out, HK.out.2.2.2.over (below_drewN (Below.refl _ _) _) (Nat.le_refl _)⟩⟩, by simp [intOf]; omega⟩
      · have t : (u != v) = true := by simpa using huv
        have hst2 : gathM (l.take (k + 1)) = addL M (normE (u, v, x)) := by rw [hst]; unfold stepM; simp [huv]
        have hnin := norm_in hin
        obtain ⟨z1, z2, z3⟩ : ∃ z, z = normE (u, v, x) := ⟨_, rfl⟩
        have HN := Lib.hid (fun W => refNormal_any (u, v, x) W)
        have HS := Lib.hid (And.intro hst2 hnin)
        generalize normE (u, v, x) = z at *
        obtain ⟨p, r, y⟩ := z
        unfold encE at HN
        simp only at HN
        clear hst hst2 hin hnin huv
        go_wp2
        go_quiet (fail)
        go_wp2_with fail
        have HW := Lib.hid (And.intro (below_drewN HK.out.2.1 nq) (HK.out.2.2.2.over (below_drewN (Below.refl _ _) nq) (Nat.le_refl _)))
        generalize wr.drewN nq = W1 at *
        refine (HN.out _).mono ?_
        rintro e w1 ⟨rfl, hb1⟩
        have hM6 : M.length ≤ 1000000 := by have := HG.out.2; have := HK.out.1; omega
        have HA := Lib.hid (refAddE_any q cap M hM6 HG.out.1 (p, r, y) HS.out.2 w1 (HW.out.2.over hb1 (Nat.le_refl _)))
        have HB1 := Lib.hid (HW.out.1.trans (hb1.mono HW.out.1.size))
        clear hb1 HN hM6
        go_wp2_with fail
        refine HA.out.mono ?_
        rintro e w2 ⟨hb2, ⟨hn, rfl⟩ | ⟨M', q', cap', hs, rfl, hr⟩⟩
        · have HX : Hid (mergeE l = none) := Lib.hid (by unfold mergeE; rw [gath_stays (k + 1) (HS.out.1.trans hn)]; rfl)
          have hB2 := HB1.out.trans (hb2.mono HB1.out.size)
          have hB5 := hB2.alloc hB2.size (.cells #[.slice none 0 0, .bool false] 77)
          have hF5 := HF0.out.on hB5 HF0.out.lt
          have hR5 := TwoAt.new w2 (.slice none 0 0) (.bool false) 77
          clear hb2 hn hB2 HA
          go_upto_region 7 with fail
          generalize w2.alloc (.cells #[.slice none 0 0, .bool false] 77) = w5 at *
          have HB5 : Hid (Below w.heap.size w w5) := Lib.hid (HB0.out.trans (hB5.mono HB0.out.size))
          obtain ⟨m0, m1, g0, g1⟩ := hF5
          obtain ⟨r0, r1, -, -⟩ := hR5
          clear hB5
          go_wp2
          refine bodyPost_ret (v := .agg #[.slice none 0 0, .bool false]) (by simp [results, Try.results30, go_sem, m0, m1]) rfl ⟨?_, Or.inl ⟨HX.out, rfl⟩⟩
          have hw := HNN.out
          exact (HB5.out.setCell (p := ⟨N, 0, none⟩) (show w.heap.size ≤ N by omega) _).setCell (p := ⟨N, 1, none⟩) (show w.heap.size ≤ N by omega) _
        · have HN2 : Hid (RmRel w0 l (k + 1) M' q' (w2.alloc (.cells #[.slice q' M'.length cap', .bool true] 77))) := Lib.hid (by
            have hB2 := HB1.out.trans (hb2.mono HB1.out.size)
            exact ⟨hlt, hB2.alloc hB2.size _, HS.out.1.trans hs, hr.over ((Below.refl _ _).alloc (Nat.le_refl _) _) (Nat.le_refl _)⟩)
          clear hb2 hs hr HA
          go_wp2
          exact ⟨⟨k + 1, M', q', cap', rfl, by go_num, HN2⟩, by simp [intOf]; omega⟩
    · have hk : k = l.length := by have := HK.out.1; omega
      subst hk
      have hg := HK.out.2.2.1
      rw [List.take_length] at hg
      have HX : Hid (mergeE l = some (nonz M)) := Lib.hid (by unfold mergeE; rw [hg]; rfl)
      have HM := Lib.hid HK.out.2.2.2
      have HB3 := Lib.hid HK.out.2.1
      have hMl : M.length ≤ 100000 := by have := HG.out.2; omega
      have HS : Hid (NzRel wr M 0 (.slice none 0 0) wr) := Lib.hid ⟨Nat.zero_le _, by rw [List.take_zero]; exact GrowE.start wr⟩
      clear hg HR
      go_wp2
      obtain ⟨W3, hW3⟩ : ∃ W3, W3 = wr := ⟨_, rfl⟩
      subst hW3
      go_loopw [6, 7] (fun s i wr => ∃ (j : Nat) (s' : Value), s' = s ∧ i = .int .i64 j ∧ Hid (NzRel W3 M j s' wr)) (fun _ i _ => M.length - (intOf i).toNat)
      case atStart => exact ⟨0, _, rfl, rfl, HS⟩
      case round =>
        obtain ⟨j, s, rfl, rfl, HJ⟩ := hrel
        clear HS
        have i0 : (0 : Int) ≤ (j : Int) := by omega
        have hlG : (nonz (M.take j)).length ≤ 100000 := Nat.le_trans (nonz_len j) hMl
        have hbs : W3.heap.size ≤ wr.heap.size := HJ.out.2.1.size
        obtain ⟨i9, hi, hz0, hz1, hz2⟩ := info_edge
        by_cases hjl : j < M.length
        · have i1 : (j : Int) < (M.length : Int) := by omega
          obtain ⟨u, v, x, he⟩ : ∃ u v x, M[j] = (u, v, x) := ⟨_, _, _, rfl⟩
          obtain ⟨b, off, rfl, hbw, hbr, c0, c1, c2⟩ := HM.out.cells hjl HJ.out.2.1 he
          have hnz := nonz_take hjl
          rw [he] at hnz
          clear he
          by_cases hx : x = 0
          · have HN2 : Hid (NzRel W3 M (j + 1) s wr) := Lib.hid ⟨hjl, by rw [hnz, if_pos hx, List.append_nil]; exact HJ.out.2⟩
            have t : (x != 0) = false := by simp [hx]
            clear hnz hx
            go_wp2
            exact ⟨⟨j + 1, s, rfl, by go_num, HN2⟩, by simp [intOf]; omega⟩
          · have HN2 : Hid (nonz (M.take (j + 1)) = nonz (M.take j) ++ [(u, v, x)]) := Lib.hid (by rw [hnz, if_neg hx])
            have t : (x != 0) = true := by simpa using hx
            clear hnz hx
            go_wp2_with (first
              | (at_builtin; refine wpList_append_own _ rfl _ _ 22 rfl W3.heap.size 58 i9 (.agg #[.int .i64 0, .int .i64 0, .int .i64 0]) 3 24 Try.underlying22 hi hz0 hz1 hz2 rfl (by decide) s (nonz (M.take j)).length (flatE (nonz (M.take j))) rfl (HJ.out.2.2.alloc _) ⟨wr.heap.size, 0, none⟩ 1 1 (cellE (u, v, x)) rfl rfl (three_newsAt rfl) ones_edge (by unfold maxLen; omega) (by omega) (by simp; omega) ?_; intro s3 w3 hown hg _; have HZ := Lib.hid (HJ.out.2.step (u, v, x) hown hg); clear hown hg))
            exact ⟨⟨j + 1, s3, rfl, by go_num, Lib.hid ⟨hjl, by rw [HN2.out]; exact HZ.out⟩⟩, by simp [intOf]; omega⟩
        · have hj : j = M.length := by have := HJ.out.1; omega
          subst hj
          have HT : Hid (M.take M.length = M) := Lib.hid List.take_length
          have hG := HJ.out.2
          rw [HT.out] at hG
          have hb5 := HB3.out.trans (hG.1.mono HB3.out.size)
          have HB5 : Hid (Below w.heap.size w wr) := Lib.hid (HB0.out.trans (hb5.mono HB0.out.size))
          obtain ⟨m0, m1, g0, g1⟩ := HF0.out.on hb5 HF0.out.lt
          have hNb : N < W3.heap.size := Nat.lt_of_lt_of_le HF0.out.lt HB3.out.size
          obtain ⟨q3, cap3, rfl, -, -⟩ := hG.reads
          have HG3 := Lib.hid hG.2
          clear hG hb5
          go_wp2
          refine bodyPost_ret (v := .agg #[.slice q3 (nonz M).length cap3, .bool true]) (by simp [results, Try.results30, go_sem, m0, m1]) rfl ⟨?_, Or.inr ⟨nonz M, q3, cap3, HX.out, rfl, own_agg HG3.out hNb _ _⟩⟩
          have hw := HNN.out
          exact (HB5.out.setCell (p := ⟨N, 0, none⟩) (show w.heap.size ≤ N by omega) _).setCell (p := ⟨N, 1, none⟩) (show w.heap.size ≤ N by omega) _
end Go.Proofs.Ytbankocbncpepaa
