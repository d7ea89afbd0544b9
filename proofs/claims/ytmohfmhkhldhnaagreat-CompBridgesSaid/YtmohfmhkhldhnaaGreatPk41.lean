/- The document's Split. -/
import Derived.Test.YtmohfmhkhldhnaaGreatPk40
import Derived.Test.YtmohfmhkhldhnaaGreatPk24
import Derived.BigQuiet
import Derived.StillTailTactics
import Derived.Deep.RegionHeld3
namespace Go.Proofs.YtmohfmhkhldhnaaGreat
open Go.RowKit Go.ChangeShapes EdPure NumPure
def splitO (l : List Ed) : Option (List Ed) := if splitB l = true then some (splitL l) else none
theorem splitO_no {l : List Ed} (h : splitB l = false) : splitO l = none := if_neg (by rw [h]; exact Bool.false_ne_true)
theorem splitO_yes {l : List Ed} (h : splitB l = true) : splitO l = some (splitL l) := if_pos h
set_option maxRecDepth 100000 in
set_option maxHeartbeats 1600000 in
theorem refSplit_any (a : Option Addr) (c : Nat) (l : List Ed) (hl : l.length ≤ 100000) (hI : InL l) (w : World) (hR : ReadsE w.heap.size w a l) :
    Calls Tryz.prog 21 #[.slice a l.length c] w fun e w' => AggOut (splitO l) w e w' := by
  have HR := Lib.hid hR
  have HI := Lib.hid hI
  have HB0 : Hid (Below w.heap.size w (w.alloc (.cells #[.slice none 0 0, .bool false] 49))) := Lib.hid ((Below.refl _ _).alloc (Nat.le_refl _) _)
  have HF0 : Hid (TwoAt w.heap.size (w.alloc (.cells #[.slice none 0 0, .bool false] 49)) (.slice none 0 0) (.bool false)) := Lib.hid (TwoAt.new _ _ _ _)
  clear hR hI
  go_enter Tryz.func21, Tryz.ntmps21
  go_wp2
  generalize w.alloc (.cells #[.slice none 0 0, .bool false] 49) = w0 at *
  obtain ⟨N, hN⟩ : ∃ N, N = w.heap.size := ⟨_, rfl⟩
  rw [← hN] at HF0 ⊢
  have HNN := Lib.hid hN
  clear hN
  go_loopw [3, 4] (fun s i wr => ∃ (k : Nat) (C : Int), s = .int .i64 C ∧ i = .int .i64 k ∧ wr = w0 ∧ Hid (CntRel w0 l k w0 ∧ (cntL (l.take k) : Int) = C)) (fun _ i _ => l.length - (intOf i).toNat)
  case atStart => exact ⟨0, 0, rfl, rfl, rfl, Lib.hid ⟨⟨Nat.zero_le _, Below.refl _ _, fun j _ h => by omega, by simp [cntL]⟩, by simp [cntL]⟩⟩
  case round =>
    obtain ⟨k, C, rfl, rfl, rfl, HK⟩ := hrel
    have i0 : (0 : Int) ≤ (k : Int) := by omega
    have hC : C ≤ 1048576 := by have := HK.out.1.2.2.2; have := HK.out.2; omega
    have hC0 : 0 ≤ C := by have := HK.out.2; omega
    obtain ⟨m0, m1, g0, g1⟩ := HF0.out
    by_cases hlt : k < l.length
    · have i1 : (k : Int) < (l.length : Int) := by omega
      obtain ⟨u, v, x, he⟩ : ∃ u v x, l[k] = (u, v, x) := ⟨_, _, _, rfl⟩
      obtain ⟨b, off, rfl, hbw, hbr, c0, c1, c2⟩ := HR.out.cells hlt HB0.out he
      have hin : In x := by have := (HI.out.at hlt).2.2; rwa [he] at this
      unfold In at hin
      have HE := Lib.hid he
      clear he
      by_cases hx : x < 0
      · have HX : Hid (splitO l = none) := Lib.hid (splitO_no (splitB_low hlt (by rw [HE.out]; exact hx)))
        go_wp2
        refine bodyPost_ret (v := .agg #[.slice none 0 0, .bool false]) (by simp [results, Tryz.results21, go_sem, m0, m1]) rfl ⟨?_, Or.inl ⟨HX.out, rfl⟩⟩
        have hw := HNN.out
        exact (HB0.out.setCell (p := ⟨N, 0, none⟩) (show w.heap.size ≤ N by omega) _).setCell (p := ⟨N, 1, none⟩) (show w.heap.size ≤ N by omega) _
      · have hx0 : 0 ≤ x := by omega
        obtain ⟨r, hr⟩ : ∃ r : Int, r = (quoE (u, v, x) : Int) + 1 := ⟨_, rfl⟩
        have hst : (cntL (l.take (k + 1)) : Int) = C + r := by rw [cnt_take hlt, HE.out, hr, ← HK.out.2]; omega
        have hqq : r = (max (x - 1) 0) / 2147483648 + 1 := by
          rw [hr]; unfold quoE; simp only; omega
        have HST := Lib.hid hst
        have HX0 := Lib.hid hx0
        have key : (x = 0 ∧ r = 1) ∨ (x ≠ 0 ∧ x % 2147483648 ≠ 0 ∧ r = x / 2147483648 + 1) ∨ (x ≠ 0 ∧ x % 2147483648 = 0 ∧ r = x / 2147483648) := by omega
        have bad : ¬ C + r ≤ 1048576 → Hid (splitO l = none) := fun h => Lib.hid (splitO_no (splitB_many (k + 1) (by have := HST.out; omega)))
        have good : C + r ≤ 1048576 → Hid (CntRel wr l (k + 1) wr ∧ (cntL (l.take (k + 1)) : Int) = C + r) := fun h => Lib.hid ⟨HK.out.1.next hlt (by rw [HE.out]; exact HX0.out) HK.out.1.2.1 (by have := HST.out; omega), HST.out⟩
        clear hst hr hqq
        by_cases hs : x / 2147483648 ≤ 1048576
        · rcases key with ⟨h1, h2⟩ | ⟨h1, h3, h2⟩ | ⟨h1, h3, h2⟩
          · subst h1
            by_cases hm : C + 1 ≤ 1048576
            · have HG := good (by omega)
              clear good bad
              go_wp2
              exact ⟨⟨k + 1, _, rfl, by go_num, trivial, Lib.hid ⟨HG.out.1, HG.out.2.trans (by omega)⟩⟩, by simp [intOf]; omega⟩
            · have HX := bad (by omega)
              clear good bad
              go_wp2
              refine bodyPost_ret (v := .agg #[.slice none 0 0, .bool false]) (by simp [results, Tryz.results21, go_sem, m0, m1]) rfl ⟨?_, Or.inl ⟨HX.out, rfl⟩⟩
              have hw := HNN.out
              exact (HB0.out.setCell (p := ⟨N, 0, none⟩) (show w.heap.size ≤ N by omega) _).setCell (p := ⟨N, 1, none⟩) (show w.heap.size ≤ N by omega) _
          · have t1 : (x == 0) = false := ne_beq h1
            have t2 : (x % 2147483648 != 0) = true := by simpa using h3
            clear h1 h3
            by_cases hm : C + (x / 2147483648 + 1) ≤ 1048576
            · have HG := good (by omega)
              clear good bad
              go_wp2
              exact ⟨⟨k + 1, _, rfl, by go_num, trivial, Lib.hid ⟨HG.out.1, HG.out.2.trans (by omega)⟩⟩, by simp [intOf]; omega⟩
            · have HX := bad (by omega)
              clear good bad
              go_wp2
              refine bodyPost_ret (v := .agg #[.slice none 0 0, .bool false]) (by simp [results, Tryz.results21, go_sem, m0, m1]) rfl ⟨?_, Or.inl ⟨HX.out, rfl⟩⟩
              have hw := HNN.out
              exact (HB0.out.setCell (p := ⟨N, 0, none⟩) (show w.heap.size ≤ N by omega) _).setCell (p := ⟨N, 1, none⟩) (show w.heap.size ≤ N by omega) _
          · have t1 : (x == 0) = false := ne_beq h1
            have t2 : (x % 2147483648 != 0) = false := by simp [h3]
            clear h1 h3
            by_cases hm : C + x / 2147483648 ≤ 1048576
            · have HG := good (by omega)
              clear good bad
              go_wp2
              exact ⟨⟨k + 1, _, rfl, by go_num, trivial, Lib.hid ⟨HG.out.1, HG.out.2.trans (by omega)⟩⟩, by simp [intOf]; omega⟩
            · have HX := bad (by omega)
              clear good bad
              go_wp2
              refine bodyPost_ret (v := .agg #[.slice none 0 0, .bool false]) (by simp [results, Tryz.results21, go_sem, m0, m1]) rfl ⟨?_, Or.inl ⟨HX.out, rfl⟩⟩
              have hw := HNN.out
              exact (HB0.out.setCell (p := ⟨N, 0, none⟩) (show w.heap.size ≤ N by omega) _).setCell (p := ⟨N, 1, none⟩) (show w.heap.size ≤ N by omega) _
        · have HX := bad (by omega)
          clear good bad key
          go_wp2
          refine bodyPost_ret (v := .agg #[.slice none 0 0, .bool false]) (by simp [results, Tryz.results21, go_sem, m0, m1]) rfl ⟨?_, Or.inl ⟨HX.out, rfl⟩⟩
          have hw := HNN.out
          exact (HB0.out.setCell (p := ⟨N, 0, none⟩) (show w.heap.size ≤ N by omega) _).setCell (p := ⟨N, 1, none⟩) (show w.heap.size ≤ N by omega) _
    · have hk : k = l.length := by have := HK.out.1.1; omega
      subst hk
      have hB : splitB l = true := splitB_yes (fun e he => by
        obtain ⟨j, hj, rfl⟩ := List.getElem_of_mem he
        exact HK.out.1.2.2.1 j hj hj) (by have := HK.out.1.2.2.2; rwa [List.take_length] at this)
      have HX : Hid (splitO l = some (splitL l)) := Lib.hid (splitO_yes hB)
      have HN := Lib.hid (splitB_cnt hB)
      obtain ⟨w0, hw0⟩ : ∃ w0, w0 = wr := ⟨_, rfl⟩
      subst hw0
      have HS : Hid (SplRel w0 l 0 (.slice none 0 0) w0) := Lib.hid ⟨Nat.zero_le _, by rw [List.take_zero]; exact GrowE.start w0⟩
      clear hB hC hC0 i0 hlt m0 m1 g0 g1
      go_wp2
      go_loopw [5, 6] (fun s i wr => ∃ (k : Nat) (s' : Value), s' = s ∧ i = .int .i64 k ∧ Hid (SplRel w0 l k s' wr)) (fun _ i _ => l.length - (intOf i).toNat)
      case atStart => exact ⟨0, _, rfl, rfl, HS⟩
      case round =>
        obtain ⟨k, s, rfl, rfl, HJ⟩ := hrel
        clear HS HK
        have i0 : (0 : Int) ≤ (k : Int) := by omega
        have HBr : Hid (Below w.heap.size w wr) := Lib.hid (HB0.out.trans (HJ.out.2.1.mono HB0.out.size))
        by_cases hlt : k < l.length
        · have i1 : (k : Int) < (l.length : Int) := by omega
          obtain ⟨u, v, x, he⟩ : ∃ u v x, l[k] = (u, v, x) := ⟨_, _, _, rfl⟩
          have HE := Lib.hid he
          obtain ⟨b, off, rfl, hbw, hbr, c0, c1, c2⟩ := HR.out.cells hlt HBr.out he
          have hx : 0 ≤ x ∧ x ≤ 9223372036854775807 := by
            have h1 := HN.out.2 _ (List.getElem_mem hlt)
            have h2 := (HI.out.at hlt).2.2
            rw [he] at h1 h2
            exact ⟨h1, h2.2⟩
          have HA : Hid (splitL (l.take (k + 1)) = splitL (l.take k) ++ piecesE (u, v, x)) := Lib.hid (by rw [split_take hlt, he])
          have HL : Hid ((splitL (l.take (k + 1))).length ≤ 1048576) := Lib.hid (by rw [split_len]; exact Nat.le_trans (cnt_le _) HN.out.1)
          have HT : Hid (GrowE w0 (splitL (l.take k)) s wr ∧ splitL (l.take k) ++ piecesE (u, v, x) = splitL (l.take (k + 1)) ∧ 0 ≤ x ∧ x ≤ 9223372036854775807) := Lib.hid ⟨HJ.out.2, HA.out.symm, hx.1, hx.2⟩
          clear he hx HA
          go_wp2
          obtain ⟨W0, hW0⟩ : ∃ W0, W0 = wr := ⟨_, rfl⟩
          subst hW0
          clear c0 c1 c2 hbr
          go_loopw [5, 7] (fun s y wr => ∃ G s' x', s' = s ∧ y = .int .i64 x' ∧ Hid (GrowE w0 G s' wr ∧ G ++ piecesE (u, v, x') = splitL (l.take (k + 1)) ∧ 0 ≤ x' ∧ x' ≤ 9223372036854775807)) (fun _ y _ => (intOf y).toNat)
          case atStart => exact ⟨_, _, _, rfl, rfl, HT⟩
          case round =>
            obtain ⟨G, s2, x2, rfl, rfl, HC⟩ := hrel
            clear HT
            have HBx : Hid (Below w.heap.size w wr) := Lib.hid (HB0.out.trans (HC.out.1.1.mono HB0.out.size))
            obtain ⟨b3, off3, hab, -, hbr2, e0, e1, -⟩ := HR.out.cells hlt HBx.out HE.out
            cases hab
            have hlenG : G.length + 1 ≤ 1048576 := by
              have h1 := HL.out
              rw [← HC.out.2.1, List.length_append, pieces_len] at h1
              omega
            have hx2 : x2 ≤ 9223372036854775807 := HC.out.2.2.2
            have hx3 : 0 ≤ x2 := HC.out.2.2.1
            obtain ⟨i9, hi, hz0, hz1, hz2⟩ := info_edge
            by_cases hgt : 2147483648 < x2
            · go_wp2
              have hkeep : Hid (∀ W', Below w0.heap.size w0 W' → W'.cell? ⟨b, off + k * 3, none⟩ = some (.int .i64 u) ∧ W'.cell? ⟨b, off + k * 3 + 1, none⟩ = some (.int .i64 v) ∧ Hid (Below w0.heap.size w0 W')) := Lib.hid fun W' h => by
                obtain ⟨b4, off4, hab, -, -, q0, q1, -⟩ := HR.out.cells hlt (HB0.out.trans (h.mono HB0.out.size)) HE.out
                cases hab
                exact ⟨q0, q1, Lib.hid h⟩
              have HG2 : Hid (GrowE w0 G s2 wr.drew) := Lib.hid (HC.out.1.on (below_drewN (Below.refl _ _) 1))
              have hb2 : b < wr.drew.heap.size := hbr2
              have hbs : w0.heap.size ≤ wr.drew.heap.size := HG2.out.1.size
              clear e0 e1 hbr2
              refine wp_region_held_drew (S := (fun W' => W'.cell? ⟨b, off + k * 3, none⟩ = some (.int .i64 u) ∧ W'.cell? ⟨b, off + k * 3 + 1, none⟩ = some (.int .i64 v) ∧ Hid (Below w0.heap.size w0 W'))) (by kernel_rfl) (hkeep.out _ HG2.out.1) (fun hHeld => ?_)
              generalize wr.drew = W1 at *
              refine wpAnyH_take (i := 0) (v := ?va0) rfl (by kernel_rfl) (by kernel_rfl) (by kernel_rfl) (fun _ _ _ h => h) (Or.inl ⟨by kernel_rfl, fun w' hSw => ?hya0⟩) (by assumption) ?resta0
              case hya0 => ((try dsimp only at hSw); go_simp; (try with_reducible rfl))
              simp only [Act.put]
              refine wpAnyH_take (i := 1) (v := ?va1) rfl (by kernel_rfl) (by kernel_rfl) (by kernel_rfl) (fun _ _ _ h => h) (Or.inl ⟨by kernel_rfl, fun w' hSw => ?hya1⟩) (by assumption) ?resta1
              case hya1 => ((try dsimp only at hSw); go_simp; (try with_reducible rfl))
              simp only [Act.put]
              refine wpAnyH_take (i := 2) (v := ?va2) rfl (by kernel_rfl) (by kernel_rfl) (by kernel_rfl) (fun _ _ _ h => h) (Or.inl ⟨by kernel_rfl, fun w' hSw => ?hya2⟩) (by assumption) ?resta2
              case hya2 => ((try dsimp only at hSw); go_simp; (try with_reducible rfl))
              simp only [Act.put]
              refine wpAnyH_take (i := 3) (v := ?va3) rfl (by kernel_rfl) (by kernel_rfl) (by kernel_rfl) (fun _ _ _ h => h) (Or.inl ⟨by kernel_rfl, fun w' hSw => ?hya3⟩) (by assumption) ?resta3
              case hya3 => ((try dsimp only at hSw); go_simp; (try with_reducible rfl))
              simp only [Act.put]
              refine wpAnyH_take (i := 4) (v := ?va4) rfl (by kernel_rfl) (by kernel_rfl) (by kernel_rfl) (fun _ _ _ h => h) (Or.inl ⟨by kernel_rfl, fun w' hSw => ?hya4⟩) (by assumption) ?resta4
              case hya4 => ((try dsimp only at hSw); go_simp; (try with_reducible rfl))
              simp only [Act.put]
              refine wpAnyH_take (i := 5) (v := ?va5) rfl (by kernel_rfl) (by kernel_rfl) (by kernel_rfl) (fun _ _ _ h => h) (Or.inl ⟨by kernel_rfl, fun w' hSw => ?hya5⟩) (by assumption) ?resta5
              case hya5 => ((try dsimp only at hSw); go_simp; (try with_reducible rfl))
              simp only [Act.put]
              refine wpAnyH_take (i := 6) (v := ?va6) rfl (by kernel_rfl) (by kernel_rfl) (by kernel_rfl) (fun _ _ _ h => h) (Or.inl ⟨by kernel_rfl, fun w' hSw => ?hya6⟩) (by assumption) ?resta6
              case hya6 => ((try dsimp only at hSw); go_simp; (try with_reducible rfl))
              simp only [Act.put]
              refine wpAnyH_take (i := 7) (v := ?va7) rfl (by kernel_rfl) (by kernel_rfl) (by kernel_rfl) (fun _ _ _ h => h) (Or.inl ⟨by kernel_rfl, fun w' hSw => ?hya7⟩) (by assumption) ?resta7
              case hya7 => ((try dsimp only at hSw); go_simp; (try with_reducible rfl))
              simp only [Act.put]
              refine wpAnyH_take (i := 8) (v := ?va8) rfl (by kernel_rfl) (by kernel_rfl) (by kernel_rfl) (fun _ _ _ h => h) (Or.inl ⟨by kernel_rfl, fun w' hSw => ?hya8⟩) (by assumption) ?resta8
              case hya8 => ((try dsimp only at hSw); go_simp; (try with_reducible rfl))
              simp only [Act.put]
              refine wpAnyH_take (i := 9) (v := ?va9) rfl (by kernel_rfl) (by kernel_rfl) (by kernel_rfl) (fun _ _ _ h => h) (Or.inl ⟨by kernel_rfl, fun w' hSw => ?hya9⟩) (by assumption) ?resta9
              case hya9 => ((try dsimp only at hSw); go_simp; (try with_reducible rfl))
              simp only [Act.put]
              refine wpAnyH_take (i := 10) (v := ?va10) rfl (by kernel_rfl) (by kernel_rfl) (by kernel_rfl) (fun _ _ _ h => h) (Or.inl ⟨by kernel_rfl, fun w' hSw => ?hya10⟩) (by assumption) ?resta10
              case hya10 => ((try dsimp only at hSw); go_simp; (try with_reducible rfl))
              simp only [Act.put]
              refine wpAnyH_take (i := 11) (v := ?va11) rfl (by kernel_rfl) (by kernel_rfl) (by kernel_rfl) (fun _ _ _ h => h) (Or.inl ⟨by kernel_rfl, fun w' hSw => ?hya11⟩) (by assumption) ?resta11
              case hya11 => ((try dsimp only at hSw); go_simp; (try with_reducible rfl))
              simp only [Act.put]
              refine wpAnyH_ready (rs := [12]) (by kernel_rfl) (by simp) ?_
              refine AllReadyH.cons rfl (fun K hK => ?_) AllReadyH.nil
              go_simp
              refine hK.out _ _ (hkeep.out _ (HG2.out.1.alloc HG2.out.1.size _)) (fun hHeld => ?_)
              clear hK K
              refine wpAnyH_ready (rs := [13]) (by kernel_rfl) (by simp) ?_
              refine AllReadyH.cons rfl (fun K hK => ?_) AllReadyH.nil
              rw [if_pos (by kernel_rfl)]
              refine wp_append_own _ _ _ 22 rfl w0.heap.size 54 i9 (.agg #[.int .i64 0, .int .i64 0, .int .i64 0]) 3 24 Tryz.underlying22 hi hz0 hz1 hz2 rfl (by decide) s2 G.length (flatE G) rfl (HG2.out.2.alloc _) ⟨W1.heap.size, 0, none⟩ 1 1 (cellE (u, v, 2147483648)) rfl rfl (three_newsAt rfl) ones_edge (by unfold maxLen; omega) (by omega) (by simp; omega) ?_
              intro s3 w3 hown hg _
              have HZ := Lib.hid (HG2.out.step (u, v, 2147483648) hown hg)
              clear hown hg hHeld
              refine hK.out _ _ (hkeep.out _ HZ.out.1) (fun hHeld => ?_)
              clear hK K
              simp only [Act.put]
              refine wpAnyH_ready (rs := [14]) (by kernel_rfl) (by simp) ?_
              refine AllReadyH.cons rfl (fun K hK => ?_) AllReadyH.nil
              go_simp
              refine hK.out _ _ hHeld (fun hHeld => ?_)
              clear hK K hkeep hHeld
              refine wpAnyH_done (by kernel_rfl) ?_ _
              go_wp2
              have HN2 : Hid (GrowE w0 (G ++ [(u, v, 2147483648)]) s3 w3 ∧ (G ++ [(u, v, 2147483648)]) ++ piecesE (u, v, x2 - 2147483648) = splitL (l.take (k + 1)) ∧ 0 ≤ x2 - 2147483648 ∧ x2 - 2147483648 ≤ 9223372036854775807) := Lib.hid
                ⟨HZ.out, by rw [← HC.out.2.1, pieces_next hgt, List.append_assoc]; rfl, by omega, by omega⟩
              exact ⟨⟨_, _, _, rfl, rfl, HN2⟩, by simp [intOf]; omega⟩
            · go_wp2
              have hkeep : Hid (∀ W', Below w0.heap.size w0 W' → W'.cell? ⟨b, off + k * 3, none⟩ = some (.int .i64 u) ∧ W'.cell? ⟨b, off + k * 3 + 1, none⟩ = some (.int .i64 v) ∧ Hid (Below w0.heap.size w0 W')) := Lib.hid fun W' h => by
                obtain ⟨b4, off4, hab, -, -, q0, q1, -⟩ := HR.out.cells hlt (HB0.out.trans (h.mono HB0.out.size)) HE.out
                cases hab
                exact ⟨q0, q1, Lib.hid h⟩
              have HG2 : Hid (GrowE w0 G s2 wr.drew) := Lib.hid (HC.out.1.on (below_drewN (Below.refl _ _) 1))
              have hb2 : b < wr.drew.heap.size := hbr2
              have hbs : w0.heap.size ≤ wr.drew.heap.size := HG2.out.1.size
              clear e0 e1 hbr2
              refine wp_region_held_drew (S := (fun W' => W'.cell? ⟨b, off + k * 3, none⟩ = some (.int .i64 u) ∧ W'.cell? ⟨b, off + k * 3 + 1, none⟩ = some (.int .i64 v) ∧ Hid (Below w0.heap.size w0 W'))) (by kernel_rfl) (hkeep.out _ HG2.out.1) (fun hHeld => ?_)
              generalize wr.drew = W1 at *
              refine wpAnyH_take (i := 0) (v := ?vb0) rfl (by kernel_rfl) (by kernel_rfl) (by kernel_rfl) (fun _ _ _ h => h) (Or.inl ⟨by kernel_rfl, fun w' hSw => ?hyb0⟩) (by assumption) ?restb0
              case hyb0 => ((try dsimp only at hSw); go_simp; (try with_reducible rfl))
              simp only [Act.put]
              refine wpAnyH_take (i := 1) (v := ?vb1) rfl (by kernel_rfl) (by kernel_rfl) (by kernel_rfl) (fun _ _ _ h => h) (Or.inl ⟨by kernel_rfl, fun w' hSw => ?hyb1⟩) (by assumption) ?restb1
              case hyb1 => ((try dsimp only at hSw); go_simp; (try with_reducible rfl))
              simp only [Act.put]
              refine wpAnyH_take (i := 2) (v := ?vb2) rfl (by kernel_rfl) (by kernel_rfl) (by kernel_rfl) (fun _ _ _ h => h) (Or.inl ⟨by kernel_rfl, fun w' hSw => ?hyb2⟩) (by assumption) ?restb2
              case hyb2 => ((try dsimp only at hSw); go_simp; (try with_reducible rfl))
              simp only [Act.put]
              refine wpAnyH_take (i := 3) (v := ?vb3) rfl (by kernel_rfl) (by kernel_rfl) (by kernel_rfl) (fun _ _ _ h => h) (Or.inl ⟨by kernel_rfl, fun w' hSw => ?hyb3⟩) (by assumption) ?restb3
              case hyb3 => ((try dsimp only at hSw); go_simp; (try with_reducible rfl))
              simp only [Act.put]
              refine wpAnyH_take (i := 4) (v := ?vb4) rfl (by kernel_rfl) (by kernel_rfl) (by kernel_rfl) (fun _ _ _ h => h) (Or.inl ⟨by kernel_rfl, fun w' hSw => ?hyb4⟩) (by assumption) ?restb4
              case hyb4 => ((try dsimp only at hSw); go_simp; (try with_reducible rfl))
              simp only [Act.put]
              refine wpAnyH_take (i := 5) (v := ?vb5) rfl (by kernel_rfl) (by kernel_rfl) (by kernel_rfl) (fun _ _ _ h => h) (Or.inl ⟨by kernel_rfl, fun w' hSw => ?hyb5⟩) (by assumption) ?restb5
              case hyb5 => ((try dsimp only at hSw); go_simp; (try with_reducible rfl))
              simp only [Act.put]
              refine wpAnyH_take (i := 6) (v := ?vb6) rfl (by kernel_rfl) (by kernel_rfl) (by kernel_rfl) (fun _ _ _ h => h) (Or.inl ⟨by kernel_rfl, fun w' hSw => ?hyb6⟩) (by assumption) ?restb6
              case hyb6 => ((try dsimp only at hSw); go_simp; (try with_reducible rfl))
              simp only [Act.put]
              refine wpAnyH_take (i := 7) (v := ?vb7) rfl (by kernel_rfl) (by kernel_rfl) (by kernel_rfl) (fun _ _ _ h => h) (Or.inl ⟨by kernel_rfl, fun w' hSw => ?hyb7⟩) (by assumption) ?restb7
              case hyb7 => ((try dsimp only at hSw); go_simp; (try with_reducible rfl))
              simp only [Act.put]
              refine wpAnyH_take (i := 8) (v := ?vb8) rfl (by kernel_rfl) (by kernel_rfl) (by kernel_rfl) (fun _ _ _ h => h) (Or.inl ⟨by kernel_rfl, fun w' hSw => ?hyb8⟩) (by assumption) ?restb8
              case hyb8 => ((try dsimp only at hSw); go_simp; (try with_reducible rfl))
              simp only [Act.put]
              refine wpAnyH_take (i := 9) (v := ?vb9) rfl (by kernel_rfl) (by kernel_rfl) (by kernel_rfl) (fun _ _ _ h => h) (Or.inl ⟨by kernel_rfl, fun w' hSw => ?hyb9⟩) (by assumption) ?restb9
              case hyb9 => ((try dsimp only at hSw); go_simp; (try with_reducible rfl))
              simp only [Act.put]
              refine wpAnyH_take (i := 10) (v := ?vb10) rfl (by kernel_rfl) (by kernel_rfl) (by kernel_rfl) (fun _ _ _ h => h) (Or.inl ⟨by kernel_rfl, fun w' hSw => ?hyb10⟩) (by assumption) ?restb10
              case hyb10 => ((try dsimp only at hSw); go_simp; (try with_reducible rfl))
              simp only [Act.put]
              refine wpAnyH_take (i := 11) (v := ?vb11) rfl (by kernel_rfl) (by kernel_rfl) (by kernel_rfl) (fun _ _ _ h => h) (Or.inl ⟨by kernel_rfl, fun w' hSw => ?hyb11⟩) (by assumption) ?restb11
              case hyb11 => ((try dsimp only at hSw); go_simp; (try with_reducible rfl))
              simp only [Act.put]
              refine wpAnyH_take (i := 12) (v := ?vb12) rfl (by kernel_rfl) (by kernel_rfl) (by kernel_rfl) (fun _ _ _ h => h) (Or.inl ⟨by kernel_rfl, fun w' hSw => ?hyb12⟩) (by assumption) ?restb12
              case hyb12 => ((try dsimp only at hSw); go_simp; (try with_reducible rfl))
              simp only [Act.put]
              refine wpAnyH_ready (rs := [13]) (by kernel_rfl) (by simp) ?_
              refine AllReadyH.cons rfl (fun K hK => ?_) AllReadyH.nil
              go_simp
              refine hK.out _ _ (hkeep.out _ (HG2.out.1.alloc HG2.out.1.size _)) (fun hHeld => ?_)
              clear hK K
              refine wpAnyH_ready (rs := [14]) (by kernel_rfl) (by simp) ?_
              refine AllReadyH.cons rfl (fun K hK => ?_) AllReadyH.nil
              rw [if_pos (by kernel_rfl)]
              refine wp_append_own _ _ _ 22 rfl w0.heap.size 54 i9 (.agg #[.int .i64 0, .int .i64 0, .int .i64 0]) 3 24 Tryz.underlying22 hi hz0 hz1 hz2 rfl (by decide) s2 G.length (flatE G) rfl (HG2.out.2.alloc _) ⟨W1.heap.size, 0, none⟩ 1 1 (cellE (u, v, x2)) rfl rfl (three_newsAt rfl) ones_edge (by unfold maxLen; omega) (by omega) (by simp; omega) ?_
              intro s3 w3 hown hg _
              have HZ := Lib.hid (HG2.out.step (u, v, x2) hown hg)
              clear hown hg hHeld
              refine hK.out _ _ (hkeep.out _ HZ.out.1) (fun hHeld => ?_)
              clear hK K
              simp only [Act.put]
              refine wpAnyH_ready (rs := [15]) (by kernel_rfl) (by simp) ?_
              refine AllReadyH.cons rfl (fun K hK => ?_) AllReadyH.nil
              go_simp
              refine hK.out _ _ hHeld (fun hHeld => ?_)
              clear hK K hkeep hHeld
              refine wpAnyH_done (by kernel_rfl) ?_ _
              go_wp2
              have HN2 : Hid (splitL (l.take (k + 1)) = G ++ [(u, v, x2)]) := Lib.hid (by rw [← HC.out.2.1, pieces_low (by omega)])
              exact ⟨⟨k + 1, s3, rfl, by go_num, Lib.hid ⟨hlt, by rw [HN2.out]; exact HZ.out⟩⟩, by simp [intOf]; omega⟩
        · have hk : k = l.length := by have := HJ.out.1; omega
          subst hk
          have hG := HJ.out.2
          rw [List.take_length] at hG
          have hNb : N < w0.heap.size := HF0.out.lt
          obtain ⟨m0, m1, g0, g1⟩ := HF0.out.on hG.1 HF0.out.lt
          obtain ⟨q3, cap3, rfl, -, -⟩ := hG.reads
          have HG3 := Lib.hid hG.2
          clear hG
          go_wp2
          refine bodyPost_ret (v := .agg #[.slice q3 (splitL l).length cap3, .bool true]) (by simp [results, Tryz.results21, go_sem, m0, m1]) rfl ⟨?_, Or.inr ⟨splitL l, q3, cap3, HX.out, rfl, own_agg HG3.out hNb _ _⟩⟩
          have hw := HNN.out
          exact (HBr.out.setCell (p := ⟨N, 0, none⟩) (show w.heap.size ≤ N by omega) _).setCell (p := ⟨N, 1, none⟩) (show w.heap.size ≤ N by omega) _
end Go.Proofs.YtmohfmhkhldhnaaGreat
