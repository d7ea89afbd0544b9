/- The document's own heads, rooms, and what leads out of a vertex (layer 19). -/
import Derived.Test.YtaoocokcfppmaaaCsRef1
import Derived.Test.YtaoocokcfppmaaaInts
namespace Go.Proofs.Ytaoocokcfppmaaa.Cs
open Go.RowKit Go.ChangeShapes EdPure NtPure CsPure
theorem back_top {i : Int} (h : i ≤ 9223372036854775807) : backZ i ≤ 9223372036854775807 := by unfold backZ; split <;> (try split) <;> omega
set_option maxRecDepth 100000 in
set_option maxHeartbeats 1000000 in
theorem refHead_any (n : Int) (a : Option Addr) (c : Nat) (M : List Ed) (hl : M.length ≤ 100000) (i : Int) (h0 : -9223372036854775808 ≤ i) (h1 : i ≤ 9223372036854775807) (w : World) (hR : ReadsE w.heap.size w a M) :
    Calls Try.prog 16 #[.agg #[.int .i64 n, .slice a M.length c], .int .i64 i] w fun e w' => e = .returned (.int .i64 (headZ M i)) ∧ Below w.heap.size w w' := by
  have HS : Hid (BoxSt w w.heap.size n a c M (w.alloc (.cells #[.int .i64 n, .slice a M.length c] 37))) := Lib.hid (BoxSt.start hR)
  have HC1 := Lib.hid (fun w => refBack_any i h0 h1 w)
  have HC2 := Lib.hid (fun w hR => refTail_any n a c M hl (backZ i) (back_top h1) w hR)
  have HV : Hid (tailZ M (backZ i) = headZ M i) := Lib.hid rfl
  rw [HV.out] at HC2
  clear hR
  generalize backZ i = bi at *
  generalize headZ M i = hz at *
  go_enter Try.func16, Try.ntmps16
  go_upto_region 1 with fail
  generalize w.alloc (.cells #[.int .i64 n, .slice a M.length c] 37) = W0 at *
  have HE1 : Hid (BoxSt w w.heap.size n a c M W0.drew) := Lib.hid (HS.out.keep ((Below.refl _ _).drew))
  refine wp_region_held_drew (S := fun W' => W'.cell? ⟨w.heap.size, 0, none⟩ = some (.int .i64 n) ∧ W'.cell? ⟨w.heap.size, 1, none⟩ = some (.slice a M.length c)) (by kernel_rfl) (two_all HE1.out.2.1) (fun hHeld => ?_)
  refine dag_take (i := 0) (v := ?vh0) rfl rfl (by kernel_rfl) (by kernel_rfl) (by kernel_rfl) (fun _ _ _ h => h) (Or.inl ⟨by kernel_rfl, fun w' hSw => ?hyh0⟩) (by assumption) ?resth0
  case hyh0 => ((try dsimp only at hSw); go_simp; (try with_reducible rfl))
  simp only [Act.put]
  refine dag_take (i := 1) (v := ?vh1) rfl rfl (by kernel_rfl) (by kernel_rfl) (by kernel_rfl) (fun _ _ _ h => h) (Or.inl ⟨by kernel_rfl, fun w' hSw => ?hyh1⟩) (by assumption) ?resth1
  case hyh1 => ((try dsimp only at hSw); go_simp; (try with_reducible rfl))
  simp only [Act.put]
  refine wpAnyH_ready (rs := [2]) (by kernel_rfl) (by simp) ?_
  refine AllReadyH.cons rfl (fun K hK => ?_) AllReadyH.nil
  go_simp
  refine (HC1.out _).mono ?_
  rintro e y1 ⟨rfl, hb1⟩
  have HE2 := Lib.hid (HE1.out.keep hb1)
  clear hb1 HE1
  go_wp2_with fail
  refine hK.out _ _ ?hSh2 (fun hHeld => ?resth2)
  case hSh2 => exact two_all HE2.out.2.1
  clear hK K
  refine wpAnyH_ready (rs := [3]) (by kernel_rfl) (by simp) ?_
  refine AllReadyH.cons rfl (fun K hK => ?_) AllReadyH.nil
  go_simp
  refine (HC2.out _ HE2.out.2.2).mono ?_
  rintro e y2 ⟨rfl, hb2⟩
  have HE3 := Lib.hid (HE2.out.keep hb2)
  clear hb2 HE2
  go_wp2_with fail
  refine hK.out _ _ ?hSh3 (fun hHeld => ?resth3)
  case hSh3 => exact two_all HE3.out.2.1
  clear hK K
  refine wpAnyH_ready (rs := [4]) (by kernel_rfl) (by simp) ?_
  refine AllReadyH.cons rfl (fun K hK => ?_) AllReadyH.nil
  go_simp
  refine hK.out _ _ (by assumption) (fun hHeld => ?_)
  clear hK K
  refine wpAnyH_done (by kernel_rfl) ?_ _
  go_wp2
  go_ret
  exact ⟨rfl, HE3.out.1⟩
set_option maxRecDepth 100000 in
set_option maxHeartbeats 1000000 in
theorem refCap_any (n : Int) (a : Option Addr) (c : Nat) (M : List Ed) (hG : GoodN n M) (hl : M.length ≤ 100000) (i : Int) (h1 : i ≤ 9223372036854775807) (w : World) (hR : ReadsE w.heap.size w a M) :
    Calls Try.prog 17 #[.agg #[.int .i64 n, .slice a M.length c], .int .i64 i] w fun e w' => e = .returned (.int .i64 (capZ M i)) ∧ Below w.heap.size w w' := by
  have HS : Hid (BoxSt w w.heap.size n a c M (w.alloc (.cells #[.int .i64 n, .slice a M.length c] 37))) := Lib.hid (BoxSt.start hR)
  have HC := Lib.hid (fun w hR => refTail_any n a c M hl i h1 w hR)
  clear hR
  by_cases hneg : tailZ M i < 0
  · have HV : Hid (capZ M i = 0) := Lib.hid (by
      unfold capZ
      split
      · rfl
      · next hn =>
        obtain ⟨k, rfl⟩ : ∃ k : Nat, i = k := ⟨i.toNat, by omega⟩
        rw [tail_nat] at hneg
        unfold wtV
        by_cases hh : k < 2 * M.length
        · have := (end_rng hG hh).1; omega
        · rw [Int.toNat_natCast, List.getElem?_eq_none (by omega)])
    generalize tailZ M i = tz at *
    go_enter Try.func17, Try.ntmps17
    go_upto_region 1 with fail
    generalize w.alloc (.cells #[.int .i64 n, .slice a M.length c] 37) = W0 at *
    obtain ⟨c0, c1, -, -⟩ := HS.out.2.1
    go_wp2_with fail
    refine (HC.out _ HS.out.2.2).mono ?_
    rintro e w1 ⟨rfl, hb1⟩
    have HS1 := Lib.hid (HS.out.keep hb1)
    clear hb1 c0 c1
    go_wp2
    go_ret
    exact ⟨ret_i HV.out.symm, HS1.out.1⟩
  · have hn : ¬ i < 0 := fun h => hneg (by unfold tailZ; rw [if_pos h]; omega)
    obtain ⟨k, rfl⟩ : ∃ k : Nat, i = k := ⟨i.toNat, by omega⟩
    obtain ⟨q, hq⟩ : ∃ q : Nat, k / 2 = q := ⟨_, rfl⟩
    have e1 : (k : Int).tdiv 2 = (q : Int) := by rw [div_two, hq]
    have q0 : (q : Int) ≤ 9223372036854775807 := by omega
    have hh : q < M.length := Decidable.byContradiction fun h => hneg (by rw [tail_nat, end_none (by rw [hq]; exact h)]; omega)
    obtain ⟨u, v, x, he⟩ : ∃ u v x, M[q] = (u, v, x) := ⟨_, _, _, rfl⟩
    have HV : Hid (capZ M (k : Int) = x) := Lib.hid (by
      rw [cap_nat]; unfold wtV
      rw [hq, List.getElem?_eq_getElem hh, he])
    have i2 : (q : Int) < (M.length : Int) := by omega
    have i3 : (0 : Int) ≤ (q : Int) := by omega
    generalize tailZ M (k : Int) = tz at *
    clear hq
    go_enter Try.func17, Try.ntmps17
    go_upto_region 1 with fail
    generalize w.alloc (.cells #[.int .i64 n, .slice a M.length c] 37) = W0 at *
    obtain ⟨c0, c1, -, -⟩ := HS.out.2.1
    go_wp2_with fail
    refine (HC.out _ HS.out.2.2).mono ?_
    rintro e w1 ⟨rfl, hb1⟩
    have HS1 := Lib.hid (HS.out.keep hb1)
    clear hb1 c0 c1 HC
    obtain ⟨c0, c1, -, -⟩ := HS1.out.2.1
    obtain ⟨b, off, rfl, -, hbr, m0, m1, m2⟩ := HS1.out.2.2.cells hh (Below.refl _ _) he
    clear he
    go_wp2
    go_ret
    exact ⟨ret_i HV.out.symm, HS1.out.1⟩
/-- A list of arcs as the program's numbers. -/
def zN (l : List Nat) : List Int := l.map fun k : Nat => (k : Int)
theorem zN_snoc (l : List Nat) (k : Nat) : zN (l ++ [k]) = zN l ++ [(k : Int)] := by unfold zN; simp
def ArcsOut (l : List Nat) (w : World) (e : Ending) (w' : World) : Prop := Below w.heap.size w w' ∧ ∃ q c, e = .returned (.slice q (zN l).length c) ∧ ReadsL encZ w'.heap.size w' q (zN l)
theorem zN_len (l : List Nat) : (zN l).length = l.length := by unfold zN; simp
set_option maxRecDepth 100000 in
set_option maxHeartbeats 2000000 in
theorem refOut_any (n : Nat) (hn : n ≤ 4096) (a : Option Addr) (c : Nat) (M : List Ed) (hG : GoodN n M) (hl : M.length ≤ 100000) (v : Int) (w : World) (hR : ReadsE w.heap.size w a M) :
    Calls Try.prog 19 #[.agg #[.int .i64 (n : Int), .slice a M.length c], .int .i64 v] w fun e w' => ArcsOut (outN M v n) w e w' := by
  have HS : Hid (BoxSt w w.heap.size (n : Int) a c M (w.alloc (.cells #[.int .i64 (n : Int), .slice a M.length c] 37))) := Lib.hid (BoxSt.start hR)
  have HG := Lib.hid hG
  obtain ⟨ti, hi1, hi2, hi3, hi4⟩ := info_parts (show (Try.prog.info? 3).map (fun i => (i.zero, i.size, i.bytes)) = some (some (.int .i64 0), 1, 8) by kernel_rfl)
  have HT := Lib.hid (fun (j : Nat) (hj : j ≤ 300000) w hR => refTail_any (n : Int) a c M hl (j : Int) (by omega) w hR)
  have HH := Lib.hid (fun (j : Nat) (hj : j ≤ 300000) w hR => refHead_any (n : Int) a c M hl (j : Int) (by omega) (by omega) w hR)
  simp only [tail_nat] at HT
  simp only [head_nat] at HH
  clear hR hG
  go_enter Try.func19, Try.ntmps19
  go_wp2_with fail
  generalize w.alloc (.cells #[.int .i64 (n : Int), .slice a M.length c] 37) = W0 at *
  go_loopw [5, 6] (fun s i wr => ∃ k : Nat, i = .int .i64 k ∧ k ≤ n ∧ Hid (GrowRel encZ 3 W0 (zN (outN M v k)) s wr)) (fun _ i _ => n - (intOf i).toNat)
  case atStart => exact ⟨0, rfl, Nat.zero_le _, Lib.hid (GrowRel.start _ _ _)⟩
  case round =>
    obtain ⟨k, rfl, hk, HK⟩ := hrel
    have HB := Lib.hid (HS.out.keep HK.out.1)
    obtain ⟨c0, c1, -, -⟩ := HB.out.2.1
    by_cases hlt : k < n
    · have i1 : (k : Int) < (n : Int) := by omega
      have HOL := Lib.hid (out_len HG.out.1 v k)
      have HK0 : Hid (GrowRel encZ 3 W0 (zN (outN M v k ++ inn M v (k : Int) 0)) u5 wr) := Lib.hid (by show GrowRel _ _ _ (zN (outN M v k ++ [])) _ _; rw [List.append_nil]; exact HK.out)
      clear HK
      go_wp2
      clear c0 c1 HB
      go_loopw [5, 7] (fun s i wr => ∃ j : Nat, i = .int .i64 j ∧ j ≤ 2 * M.length ∧ Hid (GrowRel encZ 3 W0 (zN (outN M v k ++ inn M v (k : Int) j)) s wr)) (fun _ i _ => 2 * M.length - (intOf i).toNat)
      case atStart => exact ⟨0, rfl, Nat.zero_le _, HK0⟩
      case round =>
        clear HK0
        obtain ⟨j, rfl, hj, HJ⟩ := hrel
        have HB := Lib.hid (HS.out.keep HJ.out.1)
        obtain ⟨c0, c1, -, -⟩ := HB.out.2.1
        have jd : (j : Int) ≤ 300000 := by omega
        by_cases hlt2 : j < 2 * M.length
        · have i2 : (j : Int) < 2 * (M.length : Int) := by omega
          by_cases hv : 0 ≤ v
          · have hv2 : v ≥ 0 := hv
            by_cases h1 : endV M j = v
            · by_cases h2 : hdV M j = (k : Int)
              · have HU : Hid (zN (outN M v k ++ inn M v (k : Int) (j + 1)) = zN (outN M v k ++ inn M v (k : Int) j) ++ [(j : Int)]) := Lib.hid (by
                  show zN (outN M v k ++ (inn M v (k : Int) j ++ _)) = _
                  rw [if_pos ⟨hv, h1, h2⟩, ← List.append_assoc, zN_snoc])
                have hll : (zN (outN M v k ++ inn M v (k : Int) j)).length ≤ 10000 := by
                  have h3 := HOL.out
                  have h4 := inn_len HG.out.1 v (k : Int) hj
                  rw [zN_len, List.length_append]; omega
                have HC1 := Lib.hid (HT.out j (by omega) wr HB.out.2.2)
                have HC2 := Lib.hid (fun w hR => HH.out j (by omega) w hR)
                rw [h1] at HC1
                rw [h2] at HC2
                clear h1 h2
                generalize zN (outN M v k ++ inn M v (k : Int) j) = xs at *
                go_wp2_with fail
                refine HC1.out.mono ?_
                rintro e w1 ⟨rfl, hb1⟩
                have HJ1 := Lib.hid (HJ.out.on hb1)
                have HB1 := Lib.hid (HB.out.keep hb1)
                clear hb1 HJ HB HC1 c0 c1
                obtain ⟨c0, c1, -, -⟩ := HB1.out.2.1
                go_wp2_with fail
                refine (HC2.out _ HB1.out.2.2).mono ?_
                rintro e w2 ⟨rfl, hb2⟩
                have HJ2 := Lib.hid (HJ1.out.on hb2)
                clear hb2 HJ1 HB1 HC2 c0 c1
                go_wp2_with (first
                  | (at_builtin; refine wpList_append_own_at _ rfl _ _ 32 rfl W0.heap.size 3 ti (.int .i64 0) 1 8 Try.underlying32 hi1 hi2 hi3 hi4 rfl (by decide) u5 xs.length (xs.map encZ) rfl (HJ2.out.2.alloc _) ⟨w2.heap.size, 0, none⟩ 1 1 [.int .i64 (j : Int)] rfl rfl one_news (by intro u hu; simp at hu; subst hu; rfl) (by unfold maxLen; omega) (by omega) (by have := HJ2.out.1.size; simp; omega) ?_; intro v' w6 hown6 hg6 _ _; have hst := HJ2.out.step (j : Int) hown6 hg6; rw [← HU.out] at hst; have HS6 := Lib.hid hst; clear hst hown6 hg6)
                  | go_in)
                go_roundw
                case rel => exact ⟨j + 1, by go_num, hlt2, HS6⟩
                case measure => (simp [intOf]; omega)
              · have HU : Hid (inn M v (k : Int) (j + 1) = inn M v (k : Int) j) := Lib.hid (by
                  show inn M v (k : Int) j ++ _ = _
                  rw [if_neg (fun h => h2 h.2.2), List.append_nil])
                have HC1 := Lib.hid (HT.out j (by omega) wr HB.out.2.2)
                have HC2 := Lib.hid (fun w hR => HH.out j (by omega) w hR)
                rw [h1] at HC1
                have t2 : (hdV M j == (k : Int)) = false := by rw [beq_eq_false_iff_ne]; exact h2
                generalize hdV M j = hj2 at *
                clear h1 h2
                go_wp2_with fail
                refine HC1.out.mono ?_
                rintro e w1 ⟨rfl, hb1⟩
                have HJ1 := Lib.hid (HJ.out.on hb1)
                have HB1 := Lib.hid (HB.out.keep hb1)
                clear hb1 HJ HB HC1 c0 c1
                obtain ⟨c0, c1, -, -⟩ := HB1.out.2.1
                go_wp2_with fail
                refine (HC2.out _ HB1.out.2.2).mono ?_
                rintro e w2 ⟨rfl, hb2⟩
                have HJ2 := Lib.hid (HJ1.out.on hb2)
                clear hb2 HJ1 HB1 HC2 c0 c1
                go_wp2
                go_roundw
                case rel => exact ⟨j + 1, by go_num, hlt2, by rw [HU.out]; exact HJ2⟩
                case measure => (simp [intOf]; omega)
            · have HU : Hid (inn M v (k : Int) (j + 1) = inn M v (k : Int) j) := Lib.hid (by
                show inn M v (k : Int) j ++ _ = _
                rw [if_neg (fun h => h1 h.2.1), List.append_nil])
              have HC1 := Lib.hid (HT.out j (by omega) wr HB.out.2.2)
              have t1 : (endV M j == v) = false := by rw [beq_eq_false_iff_ne]; exact h1
              generalize endV M j = ej at *
              clear h1
              go_wp2_with fail
              refine HC1.out.mono ?_
              rintro e w1 ⟨rfl, hb1⟩
              have HJ1 := Lib.hid (HJ.out.on hb1)
              clear hb1 HJ HB HC1 c0 c1
              go_wp2
              go_roundw
              case rel => exact ⟨j + 1, by go_num, hlt2, by rw [HU.out]; exact HJ1⟩
              case measure => (simp [intOf]; omega)
          · have HU : Hid (inn M v (k : Int) (j + 1) = inn M v (k : Int) j) := Lib.hid (by
              show inn M v (k : Int) j ++ _ = _
              rw [if_neg (fun h => hv h.1), List.append_nil])
            have hv2 : ¬ v ≥ 0 := hv
            go_wp2
            go_roundw
            case rel => exact ⟨j + 1, by go_num, hlt2, by rw [HU.out]; exact HJ⟩
            case measure => (simp [intOf]; omega)
        · have hje : j = 2 * M.length := by omega
          have i2 : ¬ (j : Int) < 2 * (M.length : Int) := by omega
          have HU : Hid (zN (outN M v k ++ inn M v (k : Int) j) = zN (outN M v (k + 1))) := Lib.hid (by rw [hje]; rfl)
          rw [HU.out] at HJ
          clear hje
          go_wp2
          go_roundw
          case rel => exact ⟨k + 1, by go_num, hlt, HJ⟩
          case measure => (simp [intOf]; omega)
    · have hke : k = n := by omega
      have i1 : ¬ (k : Int) < (n : Int) := by omega
      rw [hke] at HK
      clear hke
      obtain ⟨q, cap, rfl, hrd, -⟩ := HK.out.reads
      have HR := Lib.hid hrd
      clear hrd HK
      go_wp2
      go_ret
      exact ⟨HB.out.1, q, cap, rfl, HR.out⟩
end Go.Proofs.Ytaoocokcfppmaaa.Cs
