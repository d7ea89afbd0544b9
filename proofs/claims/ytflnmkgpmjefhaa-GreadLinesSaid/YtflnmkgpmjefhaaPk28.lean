/- The document's Head (layer 17). -/
import Derived.Test.YtflnmkgpmjefhaaPk27
namespace Go.Proofs.Ytflnmkgpmjefhaa.Gr
open Go.RowKit Go.ChangeShapes EdPure DecPure WordPure GrPure Str
theorem agg3i {a b c a' b' c' : Int} (h1 : a = a') (h2 : b = b') (h3 : c = c') : Ending.returned (.agg #[.int .i64 a, .int .i64 b, .int .i64 c]) = .returned (.agg #[.int .i64 a', .int .i64 b', .int .i64 c']) := by rw [h1, h2, h3]
set_option maxRecDepth 100000 in
set_option maxHeartbeats 4000000 in
theorem refHead_any (s : ByteArray) (hs : s.size ≤ 1000000) (w : World) :
    Calls Try.prog 9 #[.string s] w fun e w' => e = .returned (.agg #[.int .i64 (headN s.data.toList), .int .i64 (headM s.data.toList), .int .i64 (headE s.data.toList)]) ∧ Below w.heap.size w w' := by
  have HB0 : Hid (Below w.heap.size w (w.alloc (.cells #[.int .i64 0, .int .i64 0, .int .i64 0] 31))) := Lib.hid ((Below.refl _ _).alloc (Nat.le_refl _) _)
  have HT0 : Hid (ThreeAt w.heap.size (w.alloc (.cells #[.int .i64 0, .int .i64 0, .int .i64 0] 31)) (.int .i64 0) (.int .i64 0) (.int .i64 0)) := Lib.hid (ThreeAt.new _ _ _ _ _)
  have HW := Lib.hid (fun W => R7.refWords_any s (by omega) W)
  have hsz := Lib.size_eq s
  have HM : Hid (∀ p ∈ wordsL s.data.toList, p.length ≤ 1000000) := Lib.hid (fun p hp => by have := words_mem hp; omega)
  have HNo : Hid (wordsB s.data.toList = false → wordsL s.data.toList = []) := Lib.hid words_no
  have HBad : Hid ((wordsL s.data.toList).length ≠ 3 → headE s.data.toList = 2 ∧ headN s.data.toList = 0 ∧ headM s.data.toList = 0) := Lib.hid head_bad
  have H3 : Hid (∀ a b c, wordsL s.data.toList = [a, b, c] → headE s.data.toList = (if a = graphW ∧ parseE b ≠ 2 ∧ parseE c ≠ 2 then (if natE b 4096 = 0 ∧ natE c 1048576 = 0 then 0 else 3) else 2) ∧
    headN s.data.toList = (if headE s.data.toList = 0 then natN b 4096 else 0) ∧ headM s.data.toList = (if headE s.data.toList = 0 then natN c 1048576 else 0)) := Lib.hid fun a b c h => head_three h
  have fin : ∀ (W : World) (y1 y2 y3 : Value), Below w.heap.size w W → ThreeAt w.heap.size W y1 y2 y3 → ∀ x1 x2 x3, Hid (Below w.heap.size w (((W.setCell ⟨w.heap.size, 0, none⟩ x1).setCell ⟨w.heap.size, 1, none⟩ x2).setCell ⟨w.heap.size, 2, none⟩ x3) ∧
      ThreeAt w.heap.size (((W.setCell ⟨w.heap.size, 0, none⟩ x1).setCell ⟨w.heap.size, 1, none⟩ x2).setCell ⟨w.heap.size, 2, none⟩ x3) x1 x2 x3) := fun W _ _ _ hb hq x1 x2 x3 =>
    Lib.hid ⟨((hb.setCell (p := ⟨w.heap.size, 0, none⟩) (Nat.le_refl _) x1).setCell (p := ⟨w.heap.size, 1, none⟩) (Nat.le_refl _) x2).setCell (p := ⟨w.heap.size, 2, none⟩) (Nat.le_refl _) x3, hq.set x1 x2 x3⟩
  have FIN := Lib.hid fin
  clear fin
  generalize hl : wordsL s.data.toList = l at *
  generalize hbb : wordsB s.data.toList = b at *
  generalize headE s.data.toList = hE at *
  generalize headN s.data.toList = hN at *
  generalize headM s.data.toList = hM at *
  clear hl hbb hsz
  go_enter Try.func9, Try.ntmps9
  go_wp2_with fail
  generalize w.alloc (.cells #[.int .i64 0, .int .i64 0, .int .i64 0] 31) = W0 at *
  refine (HW.out W0).mono ?_
  rintro e w1 ⟨⟨q, c, rfl, hr, hcap⟩, hb1⟩
  have hb2 : Below W0.heap.size W0 (w1.alloc (.cells #[.slice q l.length c, .bool b] 60)) := hb1.alloc hb1.size _
  have HB2 := Lib.hid (HB0.out.trans (hb2.mono HB0.out.size))
  have HT2 := Lib.hid (HT0.out.on hb2 HT0.out.lt)
  have HK2 := Lib.hid (TwoAt.new w1 (.slice q l.length c) (.bool b) 60)
  have HR2 := Lib.hid (hr.over ((Below.refl w1.heap.size w1).alloc (Nat.le_refl _) (.cells #[.slice q l.length c, .bool b] 60)) (Nat.le_refl _))
  clear hb1 hb2 hr HB0 HT0 HW
  go_upto_region 2 with fail
  generalize w1.alloc (.cells #[.slice q l.length c, .bool b] 60) = W1 at *
  generalize w1.heap.size = K at *
  obtain ⟨k0, k1, -, -⟩ := HK2.out
  have kl := HK2.out.lt
  obtain ⟨r0, r1, r2, f0, f1, f2⟩ := HT2.out
  have rl := HT2.out.lt
  by_cases h3 : l.length = 3
  · have hb : b = true := by
      cases b with
      | true => rfl
      | false => rw [HNo.out rfl] at h3; cases h3
    subst hb
    obtain ⟨x0, x1, x2, rfl⟩ : ∃ x0 x1 x2, l = [x0, x1, x2] := by
      match l, h3 with
      | [x0, x1, x2], _ => exact ⟨x0, x1, x2, rfl⟩
    have c3 : 3 ≤ c := by simpa using hcap
    clear h3 hcap HNo HBad
    obtain ⟨bq, off, rfl, hbq, hc⟩ : ∃ bq off, q = some ⟨bq, off, none⟩ ∧ bq < W1.heap.size ∧ (W1.cell? ⟨bq, off, none⟩ = some (encS x0) ∧ W1.cell? ⟨bq, off + 1, none⟩ = some (encS x1) ∧ W1.cell? ⟨bq, off + 2, none⟩ = some (encS x2)) := by
      rcases HR2.out with h | ⟨bq, off, h1, h2, h3⟩
      · cases h
      · exact ⟨bq, off, h1, h2, h3 0 (by simp), h3 1 (by simp), h3 2 (by simp)⟩
    obtain ⟨m0, m1, m2⟩ := hc
    unfold encS at m0 m1 m2
    obtain ⟨hE1, hN1, hM1⟩ := H3.out x0 x1 x2 rfl
    have HHH := Lib.hid (And.intro hE1 (And.intro hN1 hM1))
    have s1 : x1.length ≤ 1000000 := HM.out x1 (by simp)
    have s2 : x2.length ≤ 1000000 := HM.out x2 (by simp)
    have HC1 := Lib.hid (fun W => within_any ⟨x1.toArray⟩ (by rw [Lib.size_eq]; simpa using s1) 4096 W)
    have HC2 := Lib.hid (fun W => within_any ⟨x2.toArray⟩ (by rw [Lib.size_eq]; simpa using s2) 1048576 W)
    simp only at HC1 HC2
    have HRd : Hid (ReadsL encS W1.heap.size W1 (some ⟨bq, off + 1, none⟩) [x1, x2]) := Lib.hid (Or.inr ⟨bq, off + 1, rfl, hbq, fun i hi => by
      match i, hi with
      | 0, _ => exact m1
      | 1, _ => exact m2⟩)
    have HCF := Lib.hid (formed_any (some ⟨bq, off + 1, none⟩) (c - 1) [x1, x2] (by simp) (fun p hp => HM.out p (by simp at hp ⊢; rcases hp with rfl | rfl <;> simp)) W1 HRd.out)
    have HFm : Hid (formedB [x1, x2] = decide (parseE x1 ≠ 2 ∧ parseE x2 ≠ 2)) := Lib.hid (by
      unfold formedB
      simp only [List.all_cons, List.all_nil, Bool.and_true]
      rw [Bool.eq_iff_iff]
      simp)
    have hc1 : ¬ c = 1 := by omega
    clear hE1 hN1 hM1 H3 s1 s2 HRd HR2
    by_cases hx0 : x0 = graphW
    · subst hx0
      unfold graphW at m0
      by_cases hfm : parseE x1 ≠ 2 ∧ parseE x2 ≠ 2
      · rw [HFm.out, decide_eq_true hfm] at HCF
        have HHE : Hid (hE = if natE x1 4096 = 0 ∧ natE x2 1048576 = 0 then 0 else 3) := Lib.hid (by rw [HHH.out.1, if_pos ⟨rfl, hfm⟩])
        clear hfm HFm
        go_wp2_with fail
        refine HCF.out.mono ?_
        rintro e w2 ⟨rfl, hb3⟩
        have k0' := (hb3.cell (p := ⟨K, 0, none⟩) kl).trans k0
        have m1' := (hb3.cell (p := ⟨bq, off + 1, none⟩) hbq).trans m1
        have m2' := (hb3.cell (p := ⟨bq, off + 2, none⟩) hbq).trans m2
        have HB3 := Lib.hid (HB2.out.trans (hb3.mono HB2.out.size))
        have HT3 := Lib.hid (HT2.out.on hb3 rl)
        have kl' : K < w2.heap.size := Nat.lt_of_lt_of_le kl hb3.size
        have hbq' : bq < w2.heap.size := Nat.lt_of_lt_of_le hbq hb3.size
        clear hb3 k0 k1 m0 m1 m2 kl hbq r0 r1 r2 f0 f1 f2 rl HB2 HT2 HK2 HCF
        generalize hw2 : w2 = W9 at *
        clear hw2
        go_upto_region 4 with fail
        have hkeep : Hid (∀ W', Below W9.heap.size W9 W' → W'.cell? ⟨K, 0, none⟩ = some (.slice (some ⟨bq, off, none⟩) 3 c) ∧ W'.cell? ⟨bq, off + 1, none⟩ = some (.string ⟨x1.toArray⟩) ∧ W'.cell? ⟨bq, off + 2, none⟩ = some (.string ⟨x2.toArray⟩)) :=
          Lib.hid fun W' h => ⟨(h.cell (p := ⟨K, 0, none⟩) kl').trans k0', (h.cell (p := ⟨bq, off + 1, none⟩) hbq').trans m1', (h.cell (p := ⟨bq, off + 2, none⟩) hbq').trans m2'⟩
        have HP0 : Hid (VarsSt W9 [none, none] W9.drew) := Lib.hid (VarsSt.start ⟨rfl, rfl, rfl, Nat.le_refl _, fun _ _ => rfl⟩ (by simp))
        clear k0' m1' m2' kl' hbq'
        go_cut [4, 5] from 32 to 41 (fun v4 v5 wx => ∃ X0 X1 : Nat, v4 = .pointer (some ⟨X0, 0, none⟩) ∧ v5 = .pointer (some ⟨X1, 0, none⟩) ∧ Hid (Below W9.heap.size W9 wx ∧ TwoAt X0 wx (.int .i64 (natN x1 4096)) (.int .i64 (natE x1 4096)) ∧ TwoAt X1 wx (.int .i64 (natN x2 1048576)) (.int .i64 (natE x2 1048576))))
        case first =>
          refine wp_region_held_drew (S := fun W' => W'.cell? ⟨K, 0, none⟩ = some (.slice (some ⟨bq, off, none⟩) 3 c) ∧ W'.cell? ⟨bq, off + 1, none⟩ = some (.string ⟨x1.toArray⟩) ∧ W'.cell? ⟨bq, off + 2, none⟩ = some (.string ⟨x2.toArray⟩)) (by kernel_rfl) (hkeep.out _ HP0.out.1) (fun hHeld => ?_)
          refine dag_take (i := 0) (v := ?vt0) rfl rfl (by kernel_rfl) (by kernel_rfl) (by kernel_rfl) (fun _ _ _ h => h) (Or.inl ⟨by kernel_rfl, fun w' hSw => ?hyt0⟩) (by assumption) ?restt0
          case hyt0 => ((try dsimp only at hSw); go_simp; (try with_reducible rfl))
          simp only [Act.put]
          refine dag_take (i := 1) (v := ?vt1) rfl rfl (by kernel_rfl) (by kernel_rfl) (by kernel_rfl) (fun _ _ _ h => h) (Or.inl ⟨by kernel_rfl, fun w' hSw => ?hyt1⟩) (by assumption) ?restt1
          case hyt1 => ((try dsimp only at hSw); go_simp; (try with_reducible rfl))
          simp only [Act.put]
          refine dag_take (i := 2) (v := ?vt2) rfl rfl (by kernel_rfl) (by kernel_rfl) (by kernel_rfl) (fun _ _ _ h => h) (Or.inl ⟨by kernel_rfl, fun w' hSw => ?hyt2⟩) (by assumption) ?restt2
          case hyt2 => ((try dsimp only at hSw); go_simp; (try with_reducible rfl))
          simp only [Act.put]
          refine dag_take (i := 3) (v := ?vt3) rfl rfl (by kernel_rfl) (by kernel_rfl) (by kernel_rfl) (fun _ _ _ h => h) (Or.inl ⟨by kernel_rfl, fun w' hSw => ?hyt3⟩) (by assumption) ?restt3
          case hyt3 => ((try dsimp only at hSw); go_simp; (try with_reducible rfl))
          simp only [Act.put]
          refine dag_take (i := 5) (v := ?vt5) rfl rfl (by kernel_rfl) (by kernel_rfl) (by kernel_rfl) (fun _ _ _ h => h) (Or.inl ⟨by kernel_rfl, fun w' hSw => ?hyt5⟩) (by assumption) ?restt5
          case hyt5 => ((try dsimp only at hSw); go_simp; (try with_reducible rfl))
          simp only [Act.put]
          refine dag_take (i := 6) (v := ?vt6) rfl rfl (by kernel_rfl) (by kernel_rfl) (by kernel_rfl) (fun _ _ _ h => h) (Or.inl ⟨by kernel_rfl, fun w' hSw => ?hyt6⟩) (by assumption) ?restt6
          case hyt6 => ((try dsimp only at hSw); go_simp; (try with_reducible rfl))
          simp only [Act.put]
          refine dag_take (i := 7) (v := ?vt7) rfl rfl (by kernel_rfl) (by kernel_rfl) (by kernel_rfl) (fun _ _ _ h => h) (Or.inl ⟨by kernel_rfl, fun w' hSw => ?hyt7⟩) (by assumption) ?restt7
          case hyt7 => ((try dsimp only at hSw); go_simp; (try with_reducible rfl))
          simp only [Act.put]
          refine dag_take (i := 8) (v := ?vt8) rfl rfl (by kernel_rfl) (by kernel_rfl) (by kernel_rfl) (fun _ _ _ h => h) (Or.inl ⟨by kernel_rfl, fun w' hSw => ?hyt8⟩) (by assumption) ?restt8
          case hyt8 => ((try dsimp only at hSw); go_simp; (try with_reducible rfl))
          simp only [Act.put]
          generalize W9.drew = V0 at HP0 ⊢
          clear hHeld
          refine dag_of2 (fun G T hG1 hG2 hT => ?_)
          refine dag_frame4 36 41 4 5 (fun F hF => ?_)
          simp [go_sem, Act.put] at hF
          replace hF := Lib.hid hF
          have st0 : Hid (∀ (p0 p1 : Value) (V : World) (K : Act → World → Prop), (∀ V2, Below V.heap.size V V2 → K (F (.agg #[.int .i64 (natN x1 4096), .int .i64 (natE x1 4096)]) undef p0 p1) V2) → T 4 (F undef undef p0 p1) V K) := Lib.hid (by
            intro p0 p1 V K hk
            have HK := Lib.hid hk
            clear hk
            refine (hT 4 _ rfl _ _ _).1 ?_
            rw [hF.out]
            go_simp
            refine (HC1.out V).mono ?_
            rintro e V2 ⟨rfl, hb⟩
            have hh := HK.out V2 hb
            rw [hF.out] at hh
            exact hh)
          have st1 : Hid (∀ (p0 p1 : Value) (V : World) (K : Act → World → Prop), (∀ V2, Below V.heap.size V V2 → K (F (.agg #[.int .i64 (natN x1 4096), .int .i64 (natE x1 4096)]) (.agg #[.int .i64 (natN x2 1048576), .int .i64 (natE x2 1048576)]) p0 p1) V2) → T 9 (F (.agg #[.int .i64 (natN x1 4096), .int .i64 (natE x1 4096)]) undef p0 p1) V K) := Lib.hid (by
            intro p0 p1 V K hk
            have HK := Lib.hid hk
            clear hk
            refine (hT 9 _ rfl _ _ _).1 ?_
            rw [hF.out]
            go_simp
            refine (HC2.out V).mono ?_
            rintro e V2 ⟨rfl, hb⟩
            have hh := HK.out V2 hb
            rw [hF.out] at hh
            exact hh)
          have nd2_3 : Hid (∀ (X0 X1 : Nat) (V : World), Hid (VarsSt W9 [some X0, some X1] V) → G 2 #[true, true, true, true, true, true, true, true, true, true, true, true, false, false] (F (.agg #[.int .i64 (natN x1 4096), .int .i64 (natE x1 4096)]) (.agg #[.int .i64 (natN x2 1048576), .int .i64 (natE x2 1048576)]) (.pointer (some ⟨X0, 0, none⟩)) (.pointer (some ⟨X1, 0, none⟩))) V) := Lib.hid (by
            intro X0 X1 V HP
            rw [hF.out]
            refine hG1 _ _ _ _ ?_
            have n01 : X0 ≠ X1 := HP.out.2.2 0 1 X0 X1 rfl rfl (by decide)
            have g0 := (HP.out.2.1 X0 (by simp)).1
            have g1 := (HP.out.2.1 X1 (by simp)).1
            obtain ⟨c0, c1, p0, p1⟩ := (HP.out.2.1 X0 (by simp)).2
            have lt0 := ((HP.out.2.1 X0 (by simp)).2).lt
            have HA0 : Hid (Below W9.heap.size W9 ((V.setCell ⟨X0, 0, none⟩ (.int .i64 (natN x1 4096))).setCell ⟨X0, 1, none⟩ (.int .i64 (natE x1 4096))) ∧ TwoAt X0 ((V.setCell ⟨X0, 0, none⟩ (.int .i64 (natN x1 4096))).setCell ⟨X0, 1, none⟩ (.int .i64 (natE x1 4096))) (.int .i64 (natN x1 4096)) (.int .i64 (natE x1 4096)) ∧ TwoAt X1 ((V.setCell ⟨X0, 0, none⟩ (.int .i64 (natN x1 4096))).setCell ⟨X0, 1, none⟩ (.int .i64 (natE x1 4096))) (.int .i64 (0)) (.int .i64 (0))) := Lib.hid ⟨below_lay2 (HP.out.1) g0, ((HP.out.2.1 X0 (by simp)).2).set _ _, two_other ((HP.out.2.1 X1 (by simp)).2) (fun e => n01 e.symm) _ _⟩
            refine wpAnyH_ready (rs := [12]) (by kernel_rfl) (by simp) ?_
            refine AllReadyH.cons rfl (fun K hK => ?_) AllReadyH.nil
            go_simp
            refine hK.out _ _ (hkeep.out _ HA0.out.1) (fun hHeld => ?_)
            clear hK K hHeld c0 c1 p0 p1
            generalize ((V.setCell ⟨X0, 0, none⟩ (.int .i64 (natN x1 4096))).setCell ⟨X0, 1, none⟩ (.int .i64 (natE x1 4096))) = Y0 at *
            obtain ⟨c0, c1, p0, p1⟩ := HA0.out.2.2
            have lt1 := (HA0.out.2.2).lt
            have HA1 : Hid (Below W9.heap.size W9 ((Y0.setCell ⟨X1, 0, none⟩ (.int .i64 (natN x2 1048576))).setCell ⟨X1, 1, none⟩ (.int .i64 (natE x2 1048576))) ∧ TwoAt X0 ((Y0.setCell ⟨X1, 0, none⟩ (.int .i64 (natN x2 1048576))).setCell ⟨X1, 1, none⟩ (.int .i64 (natE x2 1048576))) (.int .i64 (natN x1 4096)) (.int .i64 (natE x1 4096)) ∧ TwoAt X1 ((Y0.setCell ⟨X1, 0, none⟩ (.int .i64 (natN x2 1048576))).setCell ⟨X1, 1, none⟩ (.int .i64 (natE x2 1048576))) (.int .i64 (natN x2 1048576)) (.int .i64 (natE x2 1048576))) := Lib.hid ⟨below_lay2 (HA0.out.1) g1, two_other (HA0.out.2.1) n01 _ _, (HA0.out.2.2).set _ _⟩
            refine wpAnyH_ready (rs := [13]) (by kernel_rfl) (by simp) ?_
            refine AllReadyH.cons rfl (fun K hK => ?_) AllReadyH.nil
            go_simp
            refine hK.out _ _ (hkeep.out _ HA1.out.1) (fun hHeld => ?_)
            clear hK K hHeld c0 c1 p0 p1 HA0
            generalize ((Y0.setCell ⟨X1, 0, none⟩ (.int .i64 (natN x2 1048576))).setCell ⟨X1, 1, none⟩ (.int .i64 (natE x2 1048576))) = Y1 at *
            refine wpAnyH_done (by kernel_rfl) ?_ _
            go_wp2_with fail
            go_meet
            case rel => exact ⟨X0, X1, rfl, rfl, HA1⟩)
          have nd1_3 : Hid (∀ (X0 X1 : Nat) (V : World), Hid (VarsSt W9 [some X0, some X1] V) → G 3 #[true, true, true, true, true, true, true, true, true, false, true, true, false, false] (F (.agg #[.int .i64 (natN x1 4096), .int .i64 (natE x1 4096)]) undef (.pointer (some ⟨X0, 0, none⟩)) (.pointer (some ⟨X1, 0, none⟩))) V) := Lib.hid (by
            intro X0 X1 V HP
            rw [hF.out]
            refine hG1 _ _ _ _ ?_
            refine wpAnyH_ready (rs := [9]) (by kernel_rfl) (by simp) ?_
            refine AllReadyH.cons rfl (fun K hK => ?_) AllReadyH.nil
            refine (hT 9 _ rfl _ _ _).2 ?_
            have hs := st1.out (.pointer (some ⟨X0, 0, none⟩)) (.pointer (some ⟨X1, 0, none⟩)) V K (fun V2 hb => by
              rw [hF.out]
              have HQ := Lib.hid (HP.out.keep hb)
              refine hK.out _ _ (hkeep.out _ HQ.out.1) (fun hHeld => ?_)
              refine hG2 _ _ _ _ ?_
              have hh := nd2_3.out X0 X1 _ HQ
              rw [hF.out] at hh
              exact dag_at hh rfl (by kernel_rfl) rfl)
            rw [hF.out] at hs
            exact hs)
          have nd2_1 : Hid (∀ (X0 : Nat) (V : World), Hid (VarsSt W9 [some X0, none] V) → G 3 #[true, true, true, true, true, true, true, true, true, true, true, false, false, false] (F (.agg #[.int .i64 (natN x1 4096), .int .i64 (natE x1 4096)]) (.agg #[.int .i64 (natN x2 1048576), .int .i64 (natE x2 1048576)]) (.pointer (some ⟨X0, 0, none⟩)) undef) V) := Lib.hid (by
            intro X0 V HP
            rw [hF.out]
            refine hG1 _ _ _ _ ?_
            refine wpAnyH_ready (rs := [11]) (by kernel_rfl) (by simp) ?_
            refine AllReadyH.cons rfl (fun K hK => ?_) AllReadyH.nil
            go_simp
            have HQ := Lib.hid (HP.out.alloc 1 64)
            refine hK.out _ _ (hkeep.out _ HQ.out.1) (fun hHeld => ?_)
            refine hG2 _ _ _ _ ?_
            have hh := nd2_3.out X0 V.heap.size _ HQ
            rw [hF.out] at hh
            exact dag_at hh rfl (by kernel_rfl) rfl)
          have nd2_2 : Hid (∀ (X1 : Nat) (V : World), Hid (VarsSt W9 [none, some X1] V) → G 3 #[true, true, true, true, true, true, true, true, true, true, false, true, false, false] (F (.agg #[.int .i64 (natN x1 4096), .int .i64 (natE x1 4096)]) (.agg #[.int .i64 (natN x2 1048576), .int .i64 (natE x2 1048576)]) undef (.pointer (some ⟨X1, 0, none⟩))) V) := Lib.hid (by
            intro X1 V HP
            rw [hF.out]
            refine hG1 _ _ _ _ ?_
            refine wpAnyH_ready (rs := [10]) (by kernel_rfl) (by simp) ?_
            refine AllReadyH.cons rfl (fun K hK => ?_) AllReadyH.nil
            go_simp
            have HQ := Lib.hid (HP.out.alloc 0 64)
            refine hK.out _ _ (hkeep.out _ HQ.out.1) (fun hHeld => ?_)
            refine hG2 _ _ _ _ ?_
            have hh := nd2_3.out V.heap.size X1 _ HQ
            rw [hF.out] at hh
            exact dag_at hh rfl (by kernel_rfl) rfl)
          have nd0_3 : Hid (∀ (X0 X1 : Nat) (V : World), Hid (VarsSt W9 [some X0, some X1] V) → G 4 #[true, true, true, true, false, true, true, true, true, false, true, true, false, false] (F undef undef (.pointer (some ⟨X0, 0, none⟩)) (.pointer (some ⟨X1, 0, none⟩))) V) := Lib.hid (by
            intro X0 X1 V HP
            rw [hF.out]
            refine hG1 _ _ _ _ ?_
            refine wpAnyH_ready (rs := [4]) (by kernel_rfl) (by simp) ?_
            refine AllReadyH.cons rfl (fun K hK => ?_) AllReadyH.nil
            refine (hT 4 _ rfl _ _ _).2 ?_
            have hs := st0.out (.pointer (some ⟨X0, 0, none⟩)) (.pointer (some ⟨X1, 0, none⟩)) V K (fun V2 hb => by
              rw [hF.out]
              have HQ := Lib.hid (HP.out.keep hb)
              refine hK.out _ _ (hkeep.out _ HQ.out.1) (fun hHeld => ?_)
              refine hG2 _ _ _ _ ?_
              have hh := nd1_3.out X0 X1 _ HQ
              rw [hF.out] at hh
              exact dag_at hh rfl (by kernel_rfl) rfl)
            rw [hF.out] at hs
            exact hs)
          have nd1_1 : Hid (∀ (X0 : Nat) (V : World), Hid (VarsSt W9 [some X0, none] V) → G 4 #[true, true, true, true, true, true, true, true, true, false, true, false, false, false] (F (.agg #[.int .i64 (natN x1 4096), .int .i64 (natE x1 4096)]) undef (.pointer (some ⟨X0, 0, none⟩)) undef) V) := Lib.hid (by
            intro X0 V HP
            rw [hF.out]
            refine hG1 _ _ _ _ ?_
            refine wpAnyH_ready (rs := [9, 11]) (by kernel_rfl) (by simp) ?_
            refine AllReadyH.cons rfl (fun K hK => ?_) (AllReadyH.cons rfl (fun K hK => ?_) AllReadyH.nil)
            · refine (hT 9 _ rfl _ _ _).2 ?_
              have hs := st1.out (.pointer (some ⟨X0, 0, none⟩)) undef V K (fun V2 hb => by
                rw [hF.out]
                have HQ := Lib.hid (HP.out.keep hb)
                refine hK.out _ _ (hkeep.out _ HQ.out.1) (fun hHeld => ?_)
                refine hG2 _ _ _ _ ?_
                have hh := nd2_1.out X0 _ HQ
                rw [hF.out] at hh
                exact dag_at hh rfl (by kernel_rfl) rfl)
              rw [hF.out] at hs
              exact hs
            · go_simp
              have HQ := Lib.hid (HP.out.alloc 1 64)
              refine hK.out _ _ (hkeep.out _ HQ.out.1) (fun hHeld => ?_)
              refine hG2 _ _ _ _ ?_
              have hh := nd1_3.out X0 V.heap.size _ HQ
              rw [hF.out] at hh
              exact dag_at hh rfl (by kernel_rfl) rfl)
          have nd1_2 : Hid (∀ (X1 : Nat) (V : World), Hid (VarsSt W9 [none, some X1] V) → G 4 #[true, true, true, true, true, true, true, true, true, false, false, true, false, false] (F (.agg #[.int .i64 (natN x1 4096), .int .i64 (natE x1 4096)]) undef undef (.pointer (some ⟨X1, 0, none⟩))) V) := Lib.hid (by
            intro X1 V HP
            rw [hF.out]
            refine hG1 _ _ _ _ ?_
            refine wpAnyH_ready (rs := [9, 10]) (by kernel_rfl) (by simp) ?_
            refine AllReadyH.cons rfl (fun K hK => ?_) (AllReadyH.cons rfl (fun K hK => ?_) AllReadyH.nil)
            · refine (hT 9 _ rfl _ _ _).2 ?_
              have hs := st1.out undef (.pointer (some ⟨X1, 0, none⟩)) V K (fun V2 hb => by
                rw [hF.out]
                have HQ := Lib.hid (HP.out.keep hb)
                refine hK.out _ _ (hkeep.out _ HQ.out.1) (fun hHeld => ?_)
                refine hG2 _ _ _ _ ?_
                have hh := nd2_2.out X1 _ HQ
                rw [hF.out] at hh
                exact dag_at hh rfl (by kernel_rfl) rfl)
              rw [hF.out] at hs
              exact hs
            · go_simp
              have HQ := Lib.hid (HP.out.alloc 0 64)
              refine hK.out _ _ (hkeep.out _ HQ.out.1) (fun hHeld => ?_)
              refine hG2 _ _ _ _ ?_
              have hh := nd1_3.out V.heap.size X1 _ HQ
              rw [hF.out] at hh
              exact dag_at hh rfl (by kernel_rfl) rfl)
          have nd2_0 : Hid (∀ (V : World), Hid (VarsSt W9 [none, none] V) → G 4 #[true, true, true, true, true, true, true, true, true, true, false, false, false, false] (F (.agg #[.int .i64 (natN x1 4096), .int .i64 (natE x1 4096)]) (.agg #[.int .i64 (natN x2 1048576), .int .i64 (natE x2 1048576)]) undef undef) V) := Lib.hid (by
            intro  V HP
            rw [hF.out]
            refine hG1 _ _ _ _ ?_
            refine wpAnyH_ready (rs := [10, 11]) (by kernel_rfl) (by simp) ?_
            refine AllReadyH.cons rfl (fun K hK => ?_) (AllReadyH.cons rfl (fun K hK => ?_) AllReadyH.nil)
            · go_simp
              have HQ := Lib.hid (HP.out.alloc 0 64)
              refine hK.out _ _ (hkeep.out _ HQ.out.1) (fun hHeld => ?_)
              refine hG2 _ _ _ _ ?_
              have hh := nd2_1.out V.heap.size _ HQ
              rw [hF.out] at hh
              exact dag_at hh rfl (by kernel_rfl) rfl
            · go_simp
              have HQ := Lib.hid (HP.out.alloc 1 64)
              refine hK.out _ _ (hkeep.out _ HQ.out.1) (fun hHeld => ?_)
              refine hG2 _ _ _ _ ?_
              have hh := nd2_2.out V.heap.size _ HQ
              rw [hF.out] at hh
              exact dag_at hh rfl (by kernel_rfl) rfl)
          have nd0_1 : Hid (∀ (X0 : Nat) (V : World), Hid (VarsSt W9 [some X0, none] V) → G 5 #[true, true, true, true, false, true, true, true, true, false, true, false, false, false] (F undef undef (.pointer (some ⟨X0, 0, none⟩)) undef) V) := Lib.hid (by
            intro X0 V HP
            rw [hF.out]
            refine hG1 _ _ _ _ ?_
            refine wpAnyH_ready (rs := [4, 11]) (by kernel_rfl) (by simp) ?_
            refine AllReadyH.cons rfl (fun K hK => ?_) (AllReadyH.cons rfl (fun K hK => ?_) AllReadyH.nil)
            · refine (hT 4 _ rfl _ _ _).2 ?_
              have hs := st0.out (.pointer (some ⟨X0, 0, none⟩)) undef V K (fun V2 hb => by
                rw [hF.out]
                have HQ := Lib.hid (HP.out.keep hb)
                refine hK.out _ _ (hkeep.out _ HQ.out.1) (fun hHeld => ?_)
                refine hG2 _ _ _ _ ?_
                have hh := nd1_1.out X0 _ HQ
                rw [hF.out] at hh
                exact dag_at hh rfl (by kernel_rfl) rfl)
              rw [hF.out] at hs
              exact hs
            · go_simp
              have HQ := Lib.hid (HP.out.alloc 1 64)
              refine hK.out _ _ (hkeep.out _ HQ.out.1) (fun hHeld => ?_)
              refine hG2 _ _ _ _ ?_
              have hh := nd0_3.out X0 V.heap.size _ HQ
              rw [hF.out] at hh
              exact dag_at hh rfl (by kernel_rfl) rfl)
          have nd0_2 : Hid (∀ (X1 : Nat) (V : World), Hid (VarsSt W9 [none, some X1] V) → G 5 #[true, true, true, true, false, true, true, true, true, false, false, true, false, false] (F undef undef undef (.pointer (some ⟨X1, 0, none⟩))) V) := Lib.hid (by
            intro X1 V HP
            rw [hF.out]
            refine hG1 _ _ _ _ ?_
            refine wpAnyH_ready (rs := [4, 10]) (by kernel_rfl) (by simp) ?_
            refine AllReadyH.cons rfl (fun K hK => ?_) (AllReadyH.cons rfl (fun K hK => ?_) AllReadyH.nil)
            · refine (hT 4 _ rfl _ _ _).2 ?_
              have hs := st0.out undef (.pointer (some ⟨X1, 0, none⟩)) V K (fun V2 hb => by
                rw [hF.out]
                have HQ := Lib.hid (HP.out.keep hb)
                refine hK.out _ _ (hkeep.out _ HQ.out.1) (fun hHeld => ?_)
                refine hG2 _ _ _ _ ?_
                have hh := nd1_2.out X1 _ HQ
                rw [hF.out] at hh
                exact dag_at hh rfl (by kernel_rfl) rfl)
              rw [hF.out] at hs
              exact hs
            · go_simp
              have HQ := Lib.hid (HP.out.alloc 0 64)
              refine hK.out _ _ (hkeep.out _ HQ.out.1) (fun hHeld => ?_)
              refine hG2 _ _ _ _ ?_
              have hh := nd0_3.out V.heap.size X1 _ HQ
              rw [hF.out] at hh
              exact dag_at hh rfl (by kernel_rfl) rfl)
          have nd1_0 : Hid (∀ (V : World), Hid (VarsSt W9 [none, none] V) → G 5 #[true, true, true, true, true, true, true, true, true, false, false, false, false, false] (F (.agg #[.int .i64 (natN x1 4096), .int .i64 (natE x1 4096)]) undef undef undef) V) := Lib.hid (by
            intro  V HP
            rw [hF.out]
            refine hG1 _ _ _ _ ?_
            refine wpAnyH_ready (rs := [9, 10, 11]) (by kernel_rfl) (by simp) ?_
            refine AllReadyH.cons rfl (fun K hK => ?_) (AllReadyH.cons rfl (fun K hK => ?_) (AllReadyH.cons rfl (fun K hK => ?_) AllReadyH.nil))
            · refine (hT 9 _ rfl _ _ _).2 ?_
              have hs := st1.out undef undef V K (fun V2 hb => by
                rw [hF.out]
                have HQ := Lib.hid (HP.out.keep hb)
                refine hK.out _ _ (hkeep.out _ HQ.out.1) (fun hHeld => ?_)
                refine hG2 _ _ _ _ ?_
                have hh := nd2_0.out  _ HQ
                rw [hF.out] at hh
                exact dag_at hh rfl (by kernel_rfl) rfl)
              rw [hF.out] at hs
              exact hs
            · go_simp
              have HQ := Lib.hid (HP.out.alloc 0 64)
              refine hK.out _ _ (hkeep.out _ HQ.out.1) (fun hHeld => ?_)
              refine hG2 _ _ _ _ ?_
              have hh := nd1_1.out V.heap.size _ HQ
              rw [hF.out] at hh
              exact dag_at hh rfl (by kernel_rfl) rfl
            · go_simp
              have HQ := Lib.hid (HP.out.alloc 1 64)
              refine hK.out _ _ (hkeep.out _ HQ.out.1) (fun hHeld => ?_)
              refine hG2 _ _ _ _ ?_
              have hh := nd1_2.out V.heap.size _ HQ
              rw [hF.out] at hh
              exact dag_at hh rfl (by kernel_rfl) rfl)
          have nd0_0 : Hid (∀ (V : World), Hid (VarsSt W9 [none, none] V) → G 6 #[true, true, true, true, false, true, true, true, true, false, false, false, false, false] (F undef undef undef undef) V) := Lib.hid (by
            intro  V HP
            rw [hF.out]
            refine hG1 _ _ _ _ ?_
            refine wpAnyH_ready (rs := [4, 10, 11]) (by kernel_rfl) (by simp) ?_
            refine AllReadyH.cons rfl (fun K hK => ?_) (AllReadyH.cons rfl (fun K hK => ?_) (AllReadyH.cons rfl (fun K hK => ?_) AllReadyH.nil))
            · refine (hT 4 _ rfl _ _ _).2 ?_
              have hs := st0.out undef undef V K (fun V2 hb => by
                rw [hF.out]
                have HQ := Lib.hid (HP.out.keep hb)
                refine hK.out _ _ (hkeep.out _ HQ.out.1) (fun hHeld => ?_)
                refine hG2 _ _ _ _ ?_
                have hh := nd1_0.out  _ HQ
                rw [hF.out] at hh
                exact dag_at hh rfl (by kernel_rfl) rfl)
              rw [hF.out] at hs
              exact hs
            · go_simp
              have HQ := Lib.hid (HP.out.alloc 0 64)
              refine hK.out _ _ (hkeep.out _ HQ.out.1) (fun hHeld => ?_)
              refine hG2 _ _ _ _ ?_
              have hh := nd0_1.out V.heap.size _ HQ
              rw [hF.out] at hh
              exact dag_at hh rfl (by kernel_rfl) rfl
            · go_simp
              have HQ := Lib.hid (HP.out.alloc 1 64)
              refine hK.out _ _ (hkeep.out _ HQ.out.1) (fun hHeld => ?_)
              refine hG2 _ _ _ _ ?_
              have hh := nd0_2.out V.heap.size _ HQ
              rw [hF.out] at hh
              exact dag_at hh rfl (by kernel_rfl) rfl)
          have hh := nd0_0.out _ HP0
          rw [hF.out] at hh
          exact dag_at hh (by kernel_rfl) (by kernel_rfl) (by first | kernel_rfl | simp [go_sem, Act.put])
        case rest =>
          obtain ⟨X0, X1, rfl, rfl, HV⟩ := hcut
          obtain ⟨a0, a1, -, -⟩ := HV.out.2.1
          obtain ⟨b0, b1, -, -⟩ := HV.out.2.2
          have al := HV.out.2.1.lt
          have bl := HV.out.2.2.lt
          have HBw : Hid (Below w.heap.size w wc ∧ ThreeAt w.heap.size wc (.int .i64 0) (.int .i64 0) (.int .i64 0)) := Lib.hid ⟨HB3.out.trans (HV.out.1.mono HB3.out.size), HT3.out.on HV.out.1 HT3.out.lt⟩
          obtain ⟨r0, r1, r2, f0, f1, f2⟩ := HBw.out.2
          have rl := HBw.out.2.lt
          have bad : ∀ z, hE = z → z = 3 → Hid (hE = 3 ∧ hN = 0 ∧ hM = 0) := fun z h1 h2 => by
            subst h2
            exact Lib.hid ⟨h1, by rw [HHH.out.2.1, if_neg (by omega)], by rw [HHH.out.2.2, if_neg (by omega)]⟩
          by_cases h1 : natE x1 4096 = 0
          · by_cases h2 : natE x2 1048576 = 0
            · have hz : hE = 0 := by rw [HHE.out, if_pos ⟨h1, h2⟩]
              have HZ : Hid (hE = 0 ∧ hN = natN x1 4096 ∧ hM = natN x2 1048576) := Lib.hid ⟨hz, by rw [HHH.out.2.1, if_pos hz], by rw [HHH.out.2.2, if_pos hz]⟩
              rw [h1] at a1
              rw [h2] at b1
              clear bad hz h1 h2 HHE
              generalize natN x1 4096 = y1 at *
              generalize natN x2 1048576 = y2 at *
              have HF := FIN.out wc _ _ _ HBw.out.1 HBw.out.2 (.int .i64 y1) (.int .i64 y2) (.int .i64 0)
              go_wp2
              obtain ⟨d0, d1, d2, -, -, -⟩ := HF.out.2
              exact bodyPost_ret (v := .agg #[.int .i64 y1, .int .i64 y2, .int .i64 0]) (by simp [results, Try.results9, go_sem, d0, d1, d2]) rfl ⟨agg3i HZ.out.2.1.symm HZ.out.2.2.symm HZ.out.1.symm, HF.out.1⟩
            · have HZ := bad 3 (by rw [HHE.out, if_neg (fun h => h2 h.2)]) rfl
              have t2 : (natE x2 1048576 != 0) = true := by simpa using h2
              rw [h1] at a1
              clear bad h1 h2 HHE
              have HF := FIN.out wc _ _ _ HBw.out.1 HBw.out.2 (.int .i64 0) (.int .i64 0) (.int .i64 3)
              go_wp2
              obtain ⟨d0, d1, d2, -, -, -⟩ := HF.out.2
              exact bodyPost_ret (v := .agg #[.int .i64 0, .int .i64 0, .int .i64 3]) (by simp [results, Try.results9, go_sem, d0, d1, d2]) rfl ⟨agg3i HZ.out.2.1.symm HZ.out.2.2.symm HZ.out.1.symm, HF.out.1⟩
          · have HZ := bad 3 (by rw [HHE.out, if_neg (fun h => h1 h.1)]) rfl
            have t1 : (natE x1 4096 != 0) = true := by simpa using h1
            clear bad h1 HHE
            have HF := FIN.out wc _ _ _ HBw.out.1 HBw.out.2 (.int .i64 0) (.int .i64 0) (.int .i64 3)
            go_wp2
            obtain ⟨d0, d1, d2, -, -, -⟩ := HF.out.2
            exact bodyPost_ret (v := .agg #[.int .i64 0, .int .i64 0, .int .i64 3]) (by simp [results, Try.results9, go_sem, d0, d1, d2]) rfl ⟨agg3i HZ.out.2.1.symm HZ.out.2.2.symm HZ.out.1.symm, HF.out.1⟩
      · rw [HFm.out, decide_eq_false hfm] at HCF
        have HZ : Hid (hE = 2 ∧ hN = 0 ∧ hM = 0) := Lib.hid (by
          have h1 : hE = 2 := by rw [HHH.out.1, if_neg (fun h => hfm ⟨h.2.1, h.2.2⟩)]
          exact ⟨h1, by rw [HHH.out.2.1, if_neg (by omega)], by rw [HHH.out.2.2, if_neg (by omega)]⟩)
        clear hfm HFm
        go_wp2_with fail
        refine HCF.out.mono ?_
        rintro e w2 ⟨rfl, hb3⟩
        have HB3 := Lib.hid (HB2.out.trans (hb3.mono HB2.out.size))
        have HT3 := Lib.hid (HT2.out.on hb3 rl)
        clear hb3 r0 r1 r2 f0 f1 f2 rl k0 k1 m0 m1 m2
        obtain ⟨r0, r1, r2, f0, f1, f2⟩ := HT3.out
        have rl := HT3.out.lt
        have HF := FIN.out w2 _ _ _ HB3.out HT3.out (.int .i64 0) (.int .i64 0) (.int .i64 2)
        go_wp2
        obtain ⟨d0, d1, d2, -, -, -⟩ := HF.out.2
        exact bodyPost_ret (v := .agg #[.int .i64 0, .int .i64 0, .int .i64 2]) (by simp [results, Try.results9, go_sem, d0, d1, d2]) rfl ⟨agg3i HZ.out.2.1.symm HZ.out.2.2.symm HZ.out.1.symm, HF.out.1⟩
    · have HZ : Hid (hE = 2 ∧ hN = 0 ∧ hM = 0) := Lib.hid (by
        have h1 : hE = 2 := by rw [HHH.out.1, if_neg (fun h => hx0 h.1)]
        exact ⟨h1, by rw [HHH.out.2.1, if_neg (by omega)], by rw [HHH.out.2.2, if_neg (by omega)]⟩)
      have t0 : (x0 == [103, 114, 97, 112, 104]) = false := by simpa [graphW] using hx0
      have HF := FIN.out W1 _ _ _ HB2.out HT2.out (.int .i64 0) (.int .i64 0) (.int .i64 2)
      clear hx0 HFm
      go_wp2
      obtain ⟨d0, d1, d2, -, -, -⟩ := HF.out.2
      exact bodyPost_ret (v := .agg #[.int .i64 0, .int .i64 0, .int .i64 2]) (by simp [results, Try.results9, go_sem, d0, d1, d2]) rfl ⟨agg3i HZ.out.2.1.symm HZ.out.2.2.symm HZ.out.1.symm, HF.out.1⟩
  · have HZ := Lib.hid (HBad.out h3)
    have t3 : ((l.length : Int) != 3) = true := by rw [bne_iff_ne]; omega
    have HF := FIN.out W1 _ _ _ HB2.out HT2.out (.int .i64 0) (.int .i64 0) (.int .i64 2)
    clear h3
    cases b with
    | true =>
      go_wp2
      obtain ⟨d0, d1, d2, -, -, -⟩ := HF.out.2
      exact bodyPost_ret (v := .agg #[.int .i64 0, .int .i64 0, .int .i64 2]) (by simp [results, Try.results9, go_sem, d0, d1, d2]) rfl ⟨agg3i HZ.out.2.1.symm HZ.out.2.2.symm HZ.out.1.symm, HF.out.1⟩
    | false =>
      go_wp2
      obtain ⟨d0, d1, d2, -, -, -⟩ := HF.out.2
      exact bodyPost_ret (v := .agg #[.int .i64 0, .int .i64 0, .int .i64 2]) (by simp [results, Try.results9, go_sem, d0, d1, d2]) rfl ⟨agg3i HZ.out.2.1.symm HZ.out.2.2.symm HZ.out.1.symm, HF.out.1⟩
end Go.Proofs.Ytflnmkgpmjefhaa.Gr
