/- Texts that the laws of this seat stand on, part 25. -/
import Derived.Test.YtmohfmhkhldhnaaGreatPk23
import Derived.Test.YtmohfmhkhldhnaaGreatPk24
import Derived.Test.YtmohfmhkhldhnaaGreatPk22
/- The document's graph without an edge (layer 20). -/
namespace Go.Proofs.YtmohfmhkhldhnaaGreat.Cm
open Go.RowKit Go.ChangeShapes EdPure NtPure DsuPure CmPure Ds
/-- At the head of a round: the result's place, the boxed graph, what was gathered. -/
def WoSt (w W2 : World) (R : Nat) (n : Int) (a : Option Addr) (c : Nat) (M L : List Ed) (s : Value) (wr : World) : Prop :=
  BoxSt w w.heap.size n a c M wr ∧ TwoAt R wr (.int .i64 0) (.slice none 0 0) ∧ GrowE W2 L s wr
theorem WoSt.step {w W2 wr w' : World} {R : Nat} {n : Int} {a : Option Addr} {c : Nat} {M L : List Ed} {s s' : Value} {o : Obj} (h : WoSt w W2 R n a c M L s wr) (x : Ed) (hR : R < W2.heap.size) (hb : BoxSt w w.heap.size n a c M W2)
    (h1 : w'.ownsRow W2.heap.size 54 3 s' (L.length + 1) (flatE L ++ cellE x)) (hg : (wr.alloc o).grownBy w' s.ownBlock) : WoSt w W2 R n a c M (L ++ [x]) s' w' := by
  obtain ⟨b1, t1, g⟩ := h
  have hz := g.1.size
  have hgr : Below W2.heap.size wr w' := ((Below.refl _ _).alloc hz o).grown hg (by simp; omega) fun j hj => (g.2.lt j hj).1
  have hG := g.step x h1 hg
  exact ⟨hb.keep hG.1, t1.on hgr hR, hG⟩
def NetOut (n : Int) (L : List Ed) (w : World) (e : Ending) (w' : World) : Prop := Below w.heap.size w w' ∧ ∃ q d, e = .returned (.agg #[.int .i64 n, .slice q L.length d]) ∧ ReadsE w'.heap.size w' q L
set_option maxRecDepth 100000 in
set_option maxHeartbeats 2000000 in
theorem refWithout_any (n : Nat) (a : Option Addr) (c : Nat) (M : List Ed) (hl : M.length ≤ 100000) (i : Nat) (w : World) (hR : ReadsE w.heap.size w a M) :
    Calls Tryz.prog 22 #[.agg #[.int .i64 (n : Int), .slice a M.length c], .int .i64 (i : Int)] w fun e w' => NetOut (n : Int) (woK M i M.length) w e w' := by
  have hS := BoxSt.start (n := (n : Int)) (c := c) hR
  obtain ⟨i9, hi, hz0, hz1, hz2⟩ := info_edge
  clear hR
  have hbR : Below (w.alloc (.cells #[.int .i64 (n : Int), .slice a M.length c] 37)).heap.size (w.alloc (.cells #[.int .i64 (n : Int), .slice a M.length c] 37)) ((w.alloc (.cells #[.int .i64 (n : Int), .slice a M.length c] 37)).alloc (.cells #[.int .i64 0, .slice none 0 0] 37)) := (Below.refl _ _).alloc (Nat.le_refl _) _
  have hT := TwoAt.new (w.alloc (.cells #[.int .i64 (n : Int), .slice a M.length c] 37)) (.int .i64 0) (.slice none 0 0) 37
  have hsz : (w.alloc (.cells #[.int .i64 (n : Int), .slice a M.length c] 37)).heap.size = w.heap.size + 1 := by simp
  rw [hsz] at hT
  have HB2 := Lib.hid (hS.keep hbR)
  have HW0 : Hid (WoSt w ((w.alloc (.cells #[.int .i64 (n : Int), .slice a M.length c] 37)).alloc (.cells #[.int .i64 0, .slice none 0 0] 37)) (w.heap.size + 1) (n : Int) a c M (woK M i 0) (.slice none 0 0) ((w.alloc (.cells #[.int .i64 (n : Int), .slice a M.length c] 37)).alloc (.cells #[.int .i64 0, .slice none 0 0] 37))) :=
    Lib.hid ⟨HB2.out, hT, GrowE.start _⟩
  clear hS hbR hT hsz
  go_enter Tryz.func22, Tryz.ntmps22
  go_wp2_with fail
  generalize (w.alloc (.cells #[.int .i64 (n : Int), .slice a M.length c] 37)).alloc (.cells #[.int .i64 0, .slice none 0 0] 37) = W2 at *
  generalize hRe : w.heap.size + 1 = R at *
  have HRR : Hid (R < W2.heap.size ∧ w.heap.size ≤ R) := Lib.hid ⟨HW0.out.2.1.lt, by omega⟩
  clear hRe
  go_loopw [5, 6] (fun s kv wr => ∃ k : Nat, kv = .int .i64 k ∧ k ≤ M.length ∧ Hid (WoSt w W2 R (n : Int) a c M (woK M i k) s wr)) (fun _ kv _ => M.length - (intOf kv).toNat)
  case atStart => exact ⟨0, rfl, Nat.zero_le _, HW0⟩
  case round =>
    clear HW0
    obtain ⟨k, rfl, hk, HW⟩ := hrel
    obtain ⟨c0, c1, -, -⟩ := HW.out.1.2.1
    by_cases hlt : k < M.length
    · have i2 : (k : Int) < (M.length : Int) := by omega
      obtain ⟨u, v, x, he⟩ : ∃ u v x, M[k] = (u, v, x) := ⟨_, _, _, rfl⟩
      by_cases hki : k = i
      · have HU : Hid (woK M i (k + 1) = woK M i k) := Lib.hid (by show woK M i k ++ _ = _; rw [if_pos hki, List.append_nil])
        have t : ((k : Int) != (i : Int)) = false := by rw [bne_eq_false_iff_eq]; omega
        clear he hki
        go_wp2
        go_roundw
        case rel => exact ⟨k + 1, by go_num, hlt, by rw [HU.out]; exact HW⟩
        case measure => (simp [intOf]; omega)
      · have HU : Hid (woK M i (k + 1) = woK M i k ++ [(u, v, x)]) := Lib.hid (by show woK M i k ++ _ = _; rw [if_neg hki, List.getElem?_eq_getElem hlt, he])
        have t : ((k : Int) != (i : Int)) = true := by rw [bne_iff_ne]; omega
        obtain ⟨b, off, rfl, hbw, hbr, m0, m1, m2⟩ := HW.out.1.2.2.cells hlt (Below.refl _ _) he
        have hw0 : W2.heap.size ≤ wr.heap.size := HW.out.2.2.1.size
        have hll : (woK M i k).length ≤ 100000 := by have := (wo_sub M i k).length_le; rw [List.length_take] at this; omega
        clear he hki
        generalize hLe : woK M i k = L at *
        have HLE := Lib.hid hLe
        clear hLe
        go_wp2_with (first
          | (at_builtin; refine wpList_append_own _ rfl _ _ 22 rfl W2.heap.size 54 i9 (.agg #[.int .i64 0, .int .i64 0, .int .i64 0]) 3 24 Tryz.underlying22 hi hz0 hz1 hz2 rfl (by decide) u5 L.length (flatE L) rfl (HW.out.2.2.2.alloc _) ⟨wr.heap.size, 0, none⟩ 1 1 (cellE (u, v, x)) rfl rfl (three_newsAt rfl) ones_edge (by unfold maxLen; omega) (by omega) (by simp; omega) ?_; intro s3 w3 hown hg _; have HZ := Lib.hid (HW.out.step (u, v, x) HRR.out.1 HB2.out hown hg); clear hown hg))
        go_roundw
        case rel => exact ⟨k + 1, by go_num, hlt, by rw [HU.out]; exact HZ⟩
        case measure => (simp [intOf]; omega)
    · have hke : k = M.length := by omega
      have i2 : ¬ (k : Int) < (M.length : Int) := by omega
      rw [hke] at HW
      clear hke
      obtain ⟨q, cap, rfl, -, -⟩ := HW.out.2.2.reads
      obtain ⟨r0, r1, g0, g1⟩ := HW.out.2.1
      have rl := HW.out.2.1.lt
      have HX := Lib.hid (HW.out.2.1.set (.int .i64 (n : Int)) (.slice q (woK M i M.length).length cap))
      have HBX : Hid (Below w.heap.size w ((wr.setCell ⟨R, 0, none⟩ (.int .i64 (n : Int))).setCell ⟨R, 1, none⟩ (.slice q (woK M i M.length).length cap))) := Lib.hid ((HW.out.1.1.setCell (p := ⟨R, 0, none⟩) HRR.out.2 _).setCell (p := ⟨R, 1, none⟩) HRR.out.2 _)
      have HRD := Lib.hid (own_agg HW.out.2.2.2 HRR.out.1 (.int .i64 (n : Int)) (.slice q (woK M i M.length).length cap))
      go_wp2
      obtain ⟨d0, d1, -, -⟩ := HX.out
      exact bodyPost_ret (v := .agg #[.int .i64 (n : Int), .slice q (woK M i M.length).length cap]) (by simp [results, Tryz.results22, go_sem, d0, d1]) rfl ⟨HBX.out, q, cap, rfl, HRD.out⟩
end Go.Proofs.YtmohfmhkhldhnaaGreat.Cm
/- The document's bridges (layer 20). -/
namespace Go.Proofs.YtmohfmhkhldhnaaGreat.Cm
open Go.RowKit Go.ChangeShapes EdPure NtPure DsuPure CmPure Ds
def zN (l : List Nat) : List Int := l.map fun k : Nat => (k : Int)
theorem zN_snoc (l : List Nat) (k : Nat) : zN (l ++ [k]) = zN l ++ [(k : Int)] := by unfold zN; simp
theorem zN_len (l : List Nat) : (zN l).length = l.length := by unfold zN; simp
set_option maxRecDepth 100000 in
set_option maxHeartbeats 2000000 in
theorem refBridges_any (n : Nat) (hn : n ≤ 4096) (a : Option Addr) (c : Nat) (M : List Ed) (hl : M.length ≤ 100000) (w : World) (hR : ReadsE w.heap.size w a M) :
    Calls Tryz.prog 20 #[.agg #[.int .i64 (n : Int), .slice a M.length c]] w fun e w' => IntsOf (zN (brL n M M.length)) w e w' := by
  have HS : Hid (BoxSt w w.heap.size (n : Int) a c M (w.alloc (.cells #[.int .i64 (n : Int), .slice a M.length c] 37))) := Lib.hid (BoxSt.start hR)
  obtain ⟨ti, hi1, hi2, hi3, hi4⟩ := info_parts (show (Tryz.prog.info? 3).map (fun i => (i.zero, i.size, i.bytes)) = some (some (.int .i64 0), 1, 8) by kernel_rfl)
  clear hR
  go_enter Tryz.func20, Tryz.ntmps20
  go_wp2_with fail
  generalize w.alloc (.cells #[.int .i64 (n : Int), .slice a M.length c] 37) = W0 at *
  go_loopw [3, 4] (fun s kv wr => ∃ k : Nat, kv = .int .i64 k ∧ k ≤ M.length ∧ Hid (GrowRel encZ 3 W0 (zN (brL n M k)) s wr)) (fun _ kv _ => M.length - (intOf kv).toNat)
  case atStart => exact ⟨0, rfl, Nat.zero_le _, Lib.hid (GrowRel.start _ _ _)⟩
  case round =>
    obtain ⟨k, rfl, hk, HK⟩ := hrel
    have HB := Lib.hid (HS.out.keep HK.out.1)
    obtain ⟨c0, c1, -, -⟩ := HB.out.2.1
    by_cases hlt : k < M.length
    · have i2 : (k : Int) < (M.length : Int) := by omega
      have HWL : Hid ((woK M k M.length).length ≤ 100000) := Lib.hid (by have := (wo_all M k).length_le; omega)
      have HBR : Hid (brB n M k = decide ((listsP n (namH n M 0)).length < (listsP n (namH n (woK M k M.length) 0)).length)) := Lib.hid (by rw [listsP_len, listsP_len]; rfl)
      by_cases hbr : (listsP n (namH n M 0)).length < (listsP n (namH n (woK M k M.length) 0)).length
      · have HU : Hid (zN (brL n M (k + 1)) = zN (brL n M k) ++ [(k : Int)]) := Lib.hid (by
          show zN (brL n M k ++ _) = _
          rw [HBR.out, decide_eq_true hbr, if_pos rfl, zN_snoc])
        have i5 : ((listsP n (namH n (woK M k M.length) 0)).length : Int) > ((listsP n (namH n M 0)).length : Int) := by omega
        have hll : (zN (brL n M k)).length ≤ 100000 := by rw [zN_len]; have := brL_len n M k; omega
        clear hbr HBR
        go_upto_region 5 with fail
        have HE1 : Hid (BoxSt w w.heap.size (n : Int) a c M wr.drew) := Lib.hid (HB.out.keep ((Below.refl _ _).drew))
        have HK1 := Lib.hid (HK.out.on ((Below.refl wr.heap.size wr).drew))
        clear c0 c1 HB HK
        generalize zN (brL n M k) = xs at *
        refine wp_region_held_drew (S := fun W' => W'.cell? ⟨w.heap.size, 0, none⟩ = some (.int .i64 (n : Int)) ∧ W'.cell? ⟨w.heap.size, 1, none⟩ = some (.slice a M.length c)) (by kernel_rfl) (two_all HE1.out.2.1) (fun hHeld => ?_)
        generalize wr.drew = V0 at *
        refine dag_take (i := 0) (v := ?vb0) rfl rfl (by kernel_rfl) (by kernel_rfl) (by kernel_rfl) (fun _ _ _ h => h) (Or.inl ⟨by kernel_rfl, fun w' hSw => ?hyb0⟩) (by assumption) ?restb0
        case hyb0 => ((try dsimp only at hSw); go_simp; (try with_reducible rfl))
        simp only [Act.put]
        refine dag_take (i := 1) (v := ?vb1) rfl rfl (by kernel_rfl) (by kernel_rfl) (by kernel_rfl) (fun _ _ _ h => h) (Or.inl ⟨by kernel_rfl, fun w' hSw => ?hyb1⟩) (by assumption) ?restb1
        case hyb1 => ((try dsimp only at hSw); go_simp; (try with_reducible rfl))
        simp only [Act.put]
        refine dag_take (i := 5) (v := ?vb5) rfl rfl (by kernel_rfl) (by kernel_rfl) (by kernel_rfl) (fun _ _ _ h => h) (Or.inl ⟨by kernel_rfl, fun w' hSw => ?hyb5⟩) (by assumption) ?restb5
        case hyb5 => ((try dsimp only at hSw); go_simp; (try with_reducible rfl))
        simp only [Act.put]
        refine wpAnyH_ready (rs := [2]) (by kernel_rfl) (by simp) ?_
        refine AllReadyH.cons rfl (fun K hK => ?_) AllReadyH.nil
        go_simp
        refine (refWithout_any n a c M hl k _ HE1.out.2.2).mono ?_
        rintro e y1 ⟨hb1, q1, d1, rfl, hr1⟩
        have HE2 := Lib.hid (HE1.out.keep hb1)
        have HK2 := Lib.hid (HK1.out.on hb1)
        have HR1 := Lib.hid hr1
        clear hb1 hr1 HE1 HK1
        go_wp2_with fail
        refine hK.out _ _ ?hSb2 (fun hHeld => ?restb2)
        case hSb2 => exact two_all HE2.out.2.1
        clear hK K
        refine wpAnyH_ready (rs := [3]) (by kernel_rfl) (by simp) ?_
        refine AllReadyH.cons rfl (fun K hK => ?_) AllReadyH.nil
        go_simp
        refine (refOf_any n hn q1 d1 (woK M k M.length) HWL.out _ HR1.out).mono ?_
        rintro e y2 ⟨hb2, q2, d2, K2, rfl, -⟩
        have HE3 := Lib.hid (HE2.out.keep hb2)
        have HK3 := Lib.hid (HK2.out.on hb2)
        clear hb2 HE2 HK2
        go_wp2_with fail
        refine hK.out _ _ ?hSb3 (fun hHeld => ?restb3)
        case hSb3 => exact two_all HE3.out.2.1
        clear hK K
        refine dag_take (i := 4) (v := ?vb4) rfl rfl (by kernel_rfl) (by kernel_rfl) (by kernel_rfl) (fun _ _ _ h => h) (Or.inl ⟨by kernel_rfl, fun w' hSw => ?hyb4⟩) (by assumption) ?restb4
        case hyb4 => ((try dsimp only at hSw); go_simp; (try with_reducible rfl))
        simp only [Act.put]
        refine wpAnyH_ready (rs := [6]) (by kernel_rfl) (by simp) ?_
        refine AllReadyH.cons rfl (fun K hK => ?_) AllReadyH.nil
        go_simp
        refine (refOf_any n hn a c M hl _ HE3.out.2.2).mono ?_
        rintro e y3 ⟨hb3, q3, d3, K3, rfl, -⟩
        have HE4 := Lib.hid (HE3.out.keep hb3)
        have HK4 := Lib.hid (HK3.out.on hb3)
        clear hb3 HE3 HK3
        go_wp2_with fail
        refine hK.out _ _ ?hSb6 (fun hHeld => ?restb6)
        case hSb6 => exact two_all HE4.out.2.1
        clear hK K
        refine dag_take (i := 7) (v := ?vb7) rfl rfl (by kernel_rfl) (by kernel_rfl) (by kernel_rfl) (fun _ _ _ h => h) (Or.inl ⟨by kernel_rfl, fun w' hSw => ?hyb7⟩) (by assumption) ?restb7
        case hyb7 => ((try dsimp only at hSw); go_simp; (try with_reducible rfl))
        simp only [Act.put]
        refine wpAnyH_ready (rs := [8]) (by kernel_rfl) (by simp) ?_
        refine AllReadyH.cons rfl (fun K hK => ?_) AllReadyH.nil
        go_simp
        go_wp2_with fail
        refine hK.out _ _ ?hSb8 (fun hHeld => ?restb8)
        case hSb8 => exact two_all HE4.out.2.1
        clear hK K
        refine wpAnyH_done (by kernel_rfl) ?_ _
        go_wp2_with (first
          | (at_builtin; refine wpList_append_own_at _ rfl _ _ 32 rfl W0.heap.size 3 ti (.int .i64 0) 1 8 Tryz.underlying32 hi1 hi2 hi3 hi4 rfl (by decide) u3 xs.length (xs.map encZ) rfl (HK4.out.2.alloc _) ⟨y3.heap.size, 0, none⟩ 1 1 [.int .i64 (k : Int)] rfl rfl one_news (by intro u hu; simp at hu; subst hu; rfl) (by unfold maxLen; omega) (by omega) (by have := HK4.out.1.size; simp; omega) ?_; intro v' w6 hown6 hg6 _ _; have hst := HK4.out.step (k : Int) hown6 hg6; rw [← HU.out] at hst; have HS6 := Lib.hid hst; clear hst hown6 hg6)
          | go_in)
        go_roundw
        case rel => exact ⟨k + 1, by go_num, hlt, HS6⟩
        case measure => (simp [intOf]; omega)
      · have HU : Hid (brL n M (k + 1) = brL n M k) := Lib.hid (by
          show brL n M k ++ _ = _
          rw [HBR.out, decide_eq_false hbr, if_neg (by simp), List.append_nil])
        have i5 : ¬ ((listsP n (namH n (woK M k M.length) 0)).length : Int) > ((listsP n (namH n M 0)).length : Int) := by omega
        clear hbr HBR
        go_upto_region 5 with fail
        have HE1 : Hid (BoxSt w w.heap.size (n : Int) a c M wr.drew) := Lib.hid (HB.out.keep ((Below.refl _ _).drew))
        have HK1 := Lib.hid (HK.out.on ((Below.refl wr.heap.size wr).drew))
        clear c0 c1 HB HK
        refine wp_region_held_drew (S := fun W' => W'.cell? ⟨w.heap.size, 0, none⟩ = some (.int .i64 (n : Int)) ∧ W'.cell? ⟨w.heap.size, 1, none⟩ = some (.slice a M.length c)) (by kernel_rfl) (two_all HE1.out.2.1) (fun hHeld => ?_)
        generalize wr.drew = V0 at *
        refine dag_take (i := 0) (v := ?vd0) rfl rfl (by kernel_rfl) (by kernel_rfl) (by kernel_rfl) (fun _ _ _ h => h) (Or.inl ⟨by kernel_rfl, fun w' hSw => ?hyd0⟩) (by assumption) ?restd0
        case hyd0 => ((try dsimp only at hSw); go_simp; (try with_reducible rfl))
        simp only [Act.put]
        refine dag_take (i := 1) (v := ?vd1) rfl rfl (by kernel_rfl) (by kernel_rfl) (by kernel_rfl) (fun _ _ _ h => h) (Or.inl ⟨by kernel_rfl, fun w' hSw => ?hyd1⟩) (by assumption) ?restd1
        case hyd1 => ((try dsimp only at hSw); go_simp; (try with_reducible rfl))
        simp only [Act.put]
        refine dag_take (i := 5) (v := ?vd5) rfl rfl (by kernel_rfl) (by kernel_rfl) (by kernel_rfl) (fun _ _ _ h => h) (Or.inl ⟨by kernel_rfl, fun w' hSw => ?hyd5⟩) (by assumption) ?restd5
        case hyd5 => ((try dsimp only at hSw); go_simp; (try with_reducible rfl))
        simp only [Act.put]
        refine wpAnyH_ready (rs := [2]) (by kernel_rfl) (by simp) ?_
        refine AllReadyH.cons rfl (fun K hK => ?_) AllReadyH.nil
        go_simp
        refine (refWithout_any n a c M hl k _ HE1.out.2.2).mono ?_
        rintro e y1 ⟨hb1, q1, d1, rfl, hr1⟩
        have HE2 := Lib.hid (HE1.out.keep hb1)
        have HK2 := Lib.hid (HK1.out.on hb1)
        have HR1 := Lib.hid hr1
        clear hb1 hr1 HE1 HK1
        go_wp2_with fail
        refine hK.out _ _ ?hSd2 (fun hHeld => ?restd2)
        case hSd2 => exact two_all HE2.out.2.1
        clear hK K
        refine wpAnyH_ready (rs := [3]) (by kernel_rfl) (by simp) ?_
        refine AllReadyH.cons rfl (fun K hK => ?_) AllReadyH.nil
        go_simp
        refine (refOf_any n hn q1 d1 (woK M k M.length) HWL.out _ HR1.out).mono ?_
        rintro e y2 ⟨hb2, q2, d2, K2, rfl, -⟩
        have HE3 := Lib.hid (HE2.out.keep hb2)
        have HK3 := Lib.hid (HK2.out.on hb2)
        clear hb2 HE2 HK2
        go_wp2_with fail
        refine hK.out _ _ ?hSd3 (fun hHeld => ?restd3)
        case hSd3 => exact two_all HE3.out.2.1
        clear hK K
        refine dag_take (i := 4) (v := ?vd4) rfl rfl (by kernel_rfl) (by kernel_rfl) (by kernel_rfl) (fun _ _ _ h => h) (Or.inl ⟨by kernel_rfl, fun w' hSw => ?hyd4⟩) (by assumption) ?restd4
        case hyd4 => ((try dsimp only at hSw); go_simp; (try with_reducible rfl))
        simp only [Act.put]
        refine wpAnyH_ready (rs := [6]) (by kernel_rfl) (by simp) ?_
        refine AllReadyH.cons rfl (fun K hK => ?_) AllReadyH.nil
        go_simp
        refine (refOf_any n hn a c M hl _ HE3.out.2.2).mono ?_
        rintro e y3 ⟨hb3, q3, d3, K3, rfl, -⟩
        have HE4 := Lib.hid (HE3.out.keep hb3)
        have HK4 := Lib.hid (HK3.out.on hb3)
        clear hb3 HE3 HK3
        go_wp2_with fail
        refine hK.out _ _ ?hSd6 (fun hHeld => ?restd6)
        case hSd6 => exact two_all HE4.out.2.1
        clear hK K
        refine dag_take (i := 7) (v := ?vd7) rfl rfl (by kernel_rfl) (by kernel_rfl) (by kernel_rfl) (fun _ _ _ h => h) (Or.inl ⟨by kernel_rfl, fun w' hSw => ?hyd7⟩) (by assumption) ?restd7
        case hyd7 => ((try dsimp only at hSw); go_simp; (try with_reducible rfl))
        simp only [Act.put]
        refine wpAnyH_ready (rs := [8]) (by kernel_rfl) (by simp) ?_
        refine AllReadyH.cons rfl (fun K hK => ?_) AllReadyH.nil
        go_simp
        go_wp2_with fail
        refine hK.out _ _ ?hSd8 (fun hHeld => ?restd8)
        case hSd8 => exact two_all HE4.out.2.1
        clear hK K
        refine wpAnyH_done (by kernel_rfl) ?_ _
        go_wp2
        go_roundw
        case rel => exact ⟨k + 1, by go_num, hlt, by rw [HU.out]; exact HK4⟩
        case measure => (simp [intOf]; omega)
    · have hke : k = M.length := by omega
      have i2 : ¬ (k : Int) < (M.length : Int) := by omega
      rw [hke] at HK
      clear hke
      obtain ⟨q, cap, rfl, hrd, -⟩ := HK.out.reads
      have HR := Lib.hid hrd
      clear hrd HK
      go_wp2
      go_ret
      exact ⟨HB.out.1, q, cap, rfl, HR.out⟩
end Go.Proofs.YtmohfmhkhldhnaaGreat.Cm
/- The least one of each vertex's class, as it is laid list by list, plainly. No function of the program is named. -/
namespace Go.Proofs.YtmohfmhkhldhnaaGreat.CmPure
open EdPure NtPure DsuPure
/-- The names of those that came, 0 of the others. -/
def valL (n : Nat) (p : Nat → Nat) (D : List Int) : List Int := (List.range n).map fun x : Nat => if (x : Int) ∈ D then (p x : Int) else 0
theorem valL_len (n : Nat) (p : Nat → Nat) (D : List Int) : (valL n p D).length = n := by unfold valL; simp
theorem valL_nil (n : Nat) (p : Nat → Nat) : valL n p [] = List.replicate n 0 := by
  refine List.ext_getElem (by rw [valL_len]; simp) fun i h1 h2 => ?_
  unfold valL; simp
theorem valL_set {n : Nat} {p : Nat → Nat} (D : List Int) {x : Nat} (_h : x < n) : (valL n p D).set x (p x : Int) = valL n p (D ++ [(x : Int)]) := by
  refine List.ext_getElem (by rw [List.length_set, valL_len, valL_len]) fun i h1 h2 => ?_
  rw [List.getElem_set]
  unfold valL
  simp only [List.getElem_map, List.getElem_range, List.mem_append, List.mem_singleton]
  by_cases e : x = i
  · subst e
    rw [if_pos rfl, if_pos (Or.inr rfl)]
  · rw [if_neg e]
    have : ((i : Int) ∈ D ∨ (i : Int) = (x : Int)) ↔ (i : Int) ∈ D := ⟨fun h => h.resolve_right (by omega), Or.inl⟩
    simp only [this]
theorem valL_all {n : Nat} {p : Nat → Nat} (hp : Names n p) : valL n p (listsP n p).flatten = nameL n p := by
  unfold valL nameL
  refine List.map_congr_left fun x hx => ?_
  rw [List.mem_range] at hx
  rw [if_pos]
  have h1 := hp.1 x
  have h2 := hp.2.1 x
  refine List.mem_flatten.2 ⟨DsuPure.rowL n p (p x), List.mem_map.2 ⟨p x, ?_, rfl⟩, row_mem.2 ⟨fit_of hx, by simp⟩⟩
  unfold rootsL
  exact List.mem_filter.2 ⟨List.mem_range.2 (by omega), by simpa using h2⟩
/-- What stands in a list: vertices of one name, the first one is that name. -/
theorem row_facts {n : Nat} {p : Nat → Nat} (hp : Names n p) {i k : Nat} (hi : i < (listsP n p).length) (hk : k < ((listsP n p)[i]).length) :
    ∃ x : Nat, x < n ∧ ((listsP n p)[i])[k] = (x : Int) ∧ ((listsP n p)[i])[0]'(by omega) = (p x : Int) := by
  have hl : (listsP n p)[i] = DsuPure.rowL n p ((rootsL n p)[i]'(by unfold listsP at hi; simpa using hi)) := List.getElem_map _
  obtain ⟨r, hr⟩ : ∃ r, (rootsL n p)[i]'(by unfold listsP at hi; simpa using hi) = r := ⟨_, rfl⟩
  have hroot : p r = r ∧ r < n := by
    have hm : r ∈ rootsL n p := by rw [← hr]; exact List.getElem_mem _
    unfold rootsL at hm
    obtain ⟨a, b⟩ := List.mem_filter.1 hm
    exact ⟨by simpa using b, List.mem_range.1 a⟩
  rw [hr] at hl
  have hmem : ∀ j (hj : j < ((listsP n p)[i]).length), ∃ x : Nat, x < n ∧ p x = r ∧ ((listsP n p)[i])[j] = (x : Int) := fun j hj => by
    have h1 : ((listsP n p)[i])[j] ∈ DsuPure.rowL n p r := by rw [← hl]; exact List.getElem_mem hj
    obtain ⟨h2, h3⟩ := row_mem.1 h1
    obtain ⟨x, hx, hxn⟩ := fit_yes h2
    rw [hx, Int.toNat_natCast] at h3
    exact ⟨x, hxn, h3, hx⟩
  obtain ⟨x, x1, x2, x3⟩ := hmem k hk
  refine ⟨x, x1, x3, ?_⟩
  -- the first one is the name: it is in the list, and the list rises
  obtain ⟨y, y1, y2, y3⟩ := hmem 0 (by omega)
  have hrises : ((listsP n p)[i]).Pairwise (· < ·) := by
    rw [hl]
    unfold DsuPure.rowL
    rw [List.pairwise_map]
    exact (List.pairwise_lt_range.filter _).imp fun h => by omega
  have hrm : (r : Int) ∈ (listsP n p)[i] := by rw [hl]; exact row_mem.2 ⟨fit_of hroot.2, by simpa using hroot.1⟩
  obtain ⟨j, hj, hjr⟩ := List.mem_iff_getElem.1 hrm
  have hy : r ≤ y := by have := hp.1 y; omega
  rw [y3, x2]
  rcases Nat.eq_zero_or_pos j with h0 | h0
  · subst h0
    rw [hjr] at y3
    omega
  · have := List.pairwise_iff_getElem.1 hrises 0 j (by omega) hj h0
    rw [y3, hjr] at this
    omega
end Go.Proofs.YtmohfmhkhldhnaaGreat.CmPure
