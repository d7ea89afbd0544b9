/- The document's Edge (layer 17). -/
import Derived.Test.YtflnmkgpmjefhaaPk27
import Derived.Test.YtflnmkgpmjefhaaPk33
namespace Go.Proofs.Ytflnmkgpmjefhaa.Gr
open Go.RowKit Go.ChangeShapes EdPure DecPure WordPure GrPure Str
theorem agg4i {a b c d a' b' c' d' : Int} (h1 : a = a') (h2 : b = b') (h3 : c = c') (h4 : d = d') : Ending.returned (.agg #[.int .i64 a, .int .i64 b, .int .i64 c, .int .i64 d]) = .returned (.agg #[.int .i64 a', .int .i64 b', .int .i64 c', .int .i64 d']) := by rw [h1, h2, h3, h4]
set_option maxRecDepth 100000 in
set_option maxHeartbeats 8000000 in
theorem refEdge_any (s : ByteArray) (hs : s.size ≤ 1000000) (n : Int) (hn0 : -9223372036854775808 ≤ n) (hn1 : n ≤ 9223372036854775807) (w : World) :
    Calls Try.prog 10 #[.string s, .int .i64 n] w fun e w' => e = .returned (.agg #[.int .i64 (edgeX s.data.toList n).1, .int .i64 (edgeX s.data.toList n).2.1, .int .i64 (edgeX s.data.toList n).2.2, .int .i64 (edgeE s.data.toList n)]) ∧ Below w.heap.size w w' := by
  have HB0 : Hid (Below w.heap.size w (w.alloc (.cells #[.int .i64 0, .int .i64 0, .int .i64 0, .int .i64 0] 34))) := Lib.hid ((Below.refl _ _).alloc (Nat.le_refl _) _)
  have HT0 : Hid (QuadAt w.heap.size (w.alloc (.cells #[.int .i64 0, .int .i64 0, .int .i64 0, .int .i64 0] 34)) (.int .i64 0) (.int .i64 0) (.int .i64 0) (.int .i64 0)) := Lib.hid (QuadAt.new _ _ _ _ _ _)
  have HW := Lib.hid (fun W => R7.refWords_any s (by omega) W)
  have hsz := Lib.size_eq s
  have HM : Hid (∀ p ∈ wordsL s.data.toList, p.length ≤ 1000000) := Lib.hid (fun p hp => by have := words_mem hp; omega)
  have HNo : Hid (wordsB s.data.toList = false → wordsL s.data.toList = []) := Lib.hid words_no
  have HBad : Hid ((wordsL s.data.toList).length ≠ 3 → edgeE s.data.toList n = 2 ∧ edgeX s.data.toList n = (0, 0, 0)) := Lib.hid (fun h => edge_bad h n)
  have H3 : Hid (∀ a b c, wordsL s.data.toList = [a, b, c] → edgeE s.data.toList n = (if parseE a ≠ 2 ∧ parseE b ≠ 2 ∧ parseE c ≠ 2 then (if n < 1 then 4 else if natE a (n - 1) ≠ 0 ∨ natE b (n - 1) ≠ 0 then 4 else if natE c 2147483648 ≠ 0 then 5 else 0) else 2) ∧
    edgeX s.data.toList n = (if edgeE s.data.toList n = 0 then (natN a (n - 1), natN b (n - 1), natN c 2147483648) else (0, 0, 0))) := Lib.hid fun a b c h => edge_three h n
  have fin : ∀ (W : World) (y1 y2 y3 y4 : Value), Below w.heap.size w W → QuadAt w.heap.size W y1 y2 y3 y4 → ∀ x1 x2 x3 x4, Hid (Below w.heap.size w ((((W.setCell ⟨w.heap.size, 0, none⟩ x1).setCell ⟨w.heap.size, 1, none⟩ x2).setCell ⟨w.heap.size, 2, none⟩ x3).setCell ⟨w.heap.size, 3, none⟩ x4) ∧
      QuadAt w.heap.size ((((W.setCell ⟨w.heap.size, 0, none⟩ x1).setCell ⟨w.heap.size, 1, none⟩ x2).setCell ⟨w.heap.size, 2, none⟩ x3).setCell ⟨w.heap.size, 3, none⟩ x4) x1 x2 x3 x4) := fun W _ _ _ _ hb hq x1 x2 x3 x4 =>
    Lib.hid ⟨(((hb.setCell (p := ⟨w.heap.size, 0, none⟩) (Nat.le_refl _) x1).setCell (p := ⟨w.heap.size, 1, none⟩) (Nat.le_refl _) x2).setCell (p := ⟨w.heap.size, 2, none⟩) (Nat.le_refl _) x3).setCell (p := ⟨w.heap.size, 3, none⟩) (Nat.le_refl _) x4, hq.set x1 x2 x3 x4⟩
  have FIN := Lib.hid fin
  clear fin
  generalize hl : wordsL s.data.toList = l at *
  generalize hbb : wordsB s.data.toList = b at *
  generalize edgeE s.data.toList n = hE at *
  generalize edgeX s.data.toList n = hX at *
  clear hl hbb hsz
  go_enter Try.func10, Try.ntmps10
  go_wp2_with fail
  generalize w.alloc (.cells #[.int .i64 0, .int .i64 0, .int .i64 0, .int .i64 0] 34) = W0 at *
  refine (HW.out W0).mono ?_
  rintro e w1 ⟨⟨q, c, rfl, hr, hcap⟩, hb1⟩
  have hb2 : Below W0.heap.size W0 (w1.alloc (.cells #[.slice q l.length c, .bool b] 60)) := hb1.alloc hb1.size _
  have HB2 := Lib.hid (HB0.out.trans (hb2.mono HB0.out.size))
  have HT2 := Lib.hid (HT0.out.on hb2 HT0.out.lt)
  have HK2 := Lib.hid (TwoAt.new w1 (.slice q l.length c) (.bool b) 60)
  have HR2 := Lib.hid (hr.over ((Below.refl w1.heap.size w1).alloc (Nat.le_refl _) (.cells #[.slice q l.length c, .bool b] 60)) (Nat.le_refl _))
  clear hb1 hb2 hr HB0 HT0 HW
  go_upto_region 2 with fail
  generalize w1.alloc (.cells #[.slice q l.length c, .bool b] 60) = W1 at *
  generalize w1.heap.size = K at *
  obtain ⟨k0, k1, -, -⟩ := HK2.out
  have kl := HK2.out.lt
  obtain ⟨⟨r0, r1, r2, r3⟩, f0, f1, f2, f3⟩ := HT2.out.cells
  have rl := HT2.out.lt
  by_cases h3 : l.length = 3
  · have hb : b = true := by
      cases b with
      | true => rfl
      | false => rw [HNo.out rfl] at h3; cases h3
    subst hb
    obtain ⟨x0, x1, x2, rfl⟩ : ∃ x0 x1 x2, l = [x0, x1, x2] := by
      match l, h3 with
      | [x0, x1, x2], _ => exact ⟨x0, x1, x2, rfl⟩
    clear h3 hcap HNo HBad
    obtain ⟨bq, off, rfl, hbq, hc⟩ : ∃ bq off, q = some ⟨bq, off, none⟩ ∧ bq < W1.heap.size ∧ (W1.cell? ⟨bq, off, none⟩ = some (encS x0) ∧ W1.cell? ⟨bq, off + 1, none⟩ = some (encS x1) ∧ W1.cell? ⟨bq, off + 2, none⟩ = some (encS x2)) := by
      rcases HR2.out with h | ⟨bq, off, h1, h2, h3⟩
      · cases h
      · exact ⟨bq, off, h1, h2, h3 0 (by simp), h3 1 (by simp), h3 2 (by simp)⟩
    obtain ⟨m0, m1, m2⟩ := hc
    unfold encS at m0 m1 m2
    have HHH := Lib.hid (H3.out x0 x1 x2 rfl)
    have s0 : x0.length ≤ 1000000 := HM.out x0 (by simp)
    have s1 : x1.length ≤ 1000000 := HM.out x1 (by simp)
    have s2 : x2.length ≤ 1000000 := HM.out x2 (by simp)
    have HC0 := Lib.hid (fun W => within_any ⟨x0.toArray⟩ (by rw [Lib.size_eq]; simpa using s0) (n - 1) W)
    have HC1 := Lib.hid (fun W => within_any ⟨x1.toArray⟩ (by rw [Lib.size_eq]; simpa using s1) (n - 1) W)
    have HC2 := Lib.hid (fun W => within_any ⟨x2.toArray⟩ (by rw [Lib.size_eq]; simpa using s2) 2147483648 W)
    simp only at HC0 HC1 HC2
    have HCF := Lib.hid (formed_any (some ⟨bq, off, none⟩) c [x0, x1, x2] (by simp) HM.out W1 HR2.out)
    have HFm : Hid (formedB [x0, x1, x2] = decide (parseE x0 ≠ 2 ∧ parseE x1 ≠ 2 ∧ parseE x2 ≠ 2)) := Lib.hid (by
      unfold formedB
      simp only [List.all_cons, List.all_nil, Bool.and_true]
      rw [Bool.eq_iff_iff]
      simp)
    clear H3 s0 s1 s2 HR2
    by_cases hfm : parseE x0 ≠ 2 ∧ parseE x1 ≠ 2 ∧ parseE x2 ≠ 2
    · rw [HFm.out, decide_eq_true hfm] at HCF
      have HHE : Hid (hE = if n < 1 then 4 else if natE x0 (n - 1) ≠ 0 ∨ natE x1 (n - 1) ≠ 0 then 4 else if natE x2 2147483648 ≠ 0 then 5 else 0) := Lib.hid (by rw [HHH.out.1, if_pos hfm])
      have zero : ∀ z, hE = z → z ≠ 0 → Hid (hE = z ∧ hX = (0, 0, 0)) := fun z h1 h2 => Lib.hid ⟨h1, by rw [HHH.out.2, if_neg (by omega)]⟩
      have ZERO := Lib.hid zero
      clear hfm HFm zero
      go_wp2_with fail
      refine HCF.out.mono ?_
      rintro e w2 ⟨rfl, hb3⟩
      have k0' := (hb3.cell (p := ⟨K, 0, none⟩) kl).trans k0
      have m0' := (hb3.cell (p := ⟨bq, off, none⟩) hbq).trans m0
      have m1' := (hb3.cell (p := ⟨bq, off + 1, none⟩) hbq).trans m1
      have m2' := (hb3.cell (p := ⟨bq, off + 2, none⟩) hbq).trans m2
      have HB3 := Lib.hid (HB2.out.trans (hb3.mono HB2.out.size))
      have HT3 := Lib.hid (HT2.out.on hb3 rl)
      have kl' : K < w2.heap.size := Nat.lt_of_lt_of_le kl hb3.size
      have hbq' : bq < w2.heap.size := Nat.lt_of_lt_of_le hbq hb3.size
      clear hb3 k0 k1 m0 m1 m2 kl hbq r0 r1 r2 r3 f0 f1 f2 f3 rl HB2 HT2 HK2 HCF
      generalize hw2 : w2 = W9 at *
      clear hw2
      by_cases hn : n < 1
      · have HZ := ZERO.out 4 (by rw [HHE.out, if_pos hn]) (by decide)
        obtain ⟨⟨r0, r1, r2, r3⟩, f0, f1, f2, f3⟩ := HT3.out.cells
        have rl := HT3.out.lt
        have HF := FIN.out W9 _ _ _ _ HB3.out HT3.out (.int .i64 0) (.int .i64 0) (.int .i64 0) (.int .i64 4)
        clear HHE HHH k0' m0' m1' m2'
        go_wp2
        obtain ⟨⟨d0, d1, d2, d3⟩, -⟩ := HF.out.2.cells
        exact bodyPost_ret (v := .agg #[.int .i64 0, .int .i64 0, .int .i64 0, .int .i64 4]) (by simp [results, Try.results10, go_sem, d0, d1, d2, d3]) rfl ⟨agg4i (by rw [HZ.out.2]) (by rw [HZ.out.2]) (by rw [HZ.out.2]) HZ.out.1.symm, HF.out.1⟩
      · have HHF : Hid (hE = if natE x0 (n - 1) ≠ 0 ∨ natE x1 (n - 1) ≠ 0 then 4 else if natE x2 2147483648 ≠ 0 then 5 else 0) := Lib.hid (by rw [HHE.out, if_neg hn])
        have hn2 : 1 ≤ n := by omega
        have hkeep : Hid (∀ W', Below W9.heap.size W9 W' → W'.cell? ⟨K, 0, none⟩ = some (.slice (some ⟨bq, off, none⟩) 3 c) ∧ W'.cell? ⟨bq, off, none⟩ = some (.string ⟨x0.toArray⟩) ∧ W'.cell? ⟨bq, off + 1, none⟩ = some (.string ⟨x1.toArray⟩) ∧ W'.cell? ⟨bq, off + 2, none⟩ = some (.string ⟨x2.toArray⟩)) :=
          Lib.hid fun W' h => ⟨(h.cell (p := ⟨K, 0, none⟩) kl').trans k0', (h.cell (p := ⟨bq, off, none⟩) hbq').trans m0', (h.cell (p := ⟨bq, off + 1, none⟩) hbq').trans m1', (h.cell (p := ⟨bq, off + 2, none⟩) hbq').trans m2'⟩
        have HP0 : Hid (VarsSt W9 [none, none, none] W9.drew) := Lib.hid (VarsSt.start ⟨rfl, rfl, rfl, Nat.le_refl _, fun _ _ => rfl⟩ (by simp))
        clear k0' m0' m1' m2' kl' hbq' hn HHE
        go_upto_region 6 with fail
        go_cut [6, 7, 8] from 30 to 48 (fun v6 v7 v8 wx => ∃ X0 X1 X2 : Nat, v6 = .pointer (some ⟨X0, 0, none⟩) ∧ v7 = .pointer (some ⟨X1, 0, none⟩) ∧ v8 = .pointer (some ⟨X2, 0, none⟩) ∧ Hid (Below W9.heap.size W9 wx ∧ TwoAt X0 wx (.int .i64 (natN x0 (n - 1))) (.int .i64 (natE x0 (n - 1))) ∧ TwoAt X1 wx (.int .i64 (natN x1 (n - 1))) (.int .i64 (natE x1 (n - 1))) ∧ TwoAt X2 wx (.int .i64 (natN x2 2147483648)) (.int .i64 (natE x2 2147483648))))
        case first =>
          refine wp_region_held_drew (S := fun W' => W'.cell? ⟨K, 0, none⟩ = some (.slice (some ⟨bq, off, none⟩) 3 c) ∧ W'.cell? ⟨bq, off, none⟩ = some (.string ⟨x0.toArray⟩) ∧ W'.cell? ⟨bq, off + 1, none⟩ = some (.string ⟨x1.toArray⟩) ∧ W'.cell? ⟨bq, off + 2, none⟩ = some (.string ⟨x2.toArray⟩)) (by kernel_rfl) (hkeep.out _ HP0.out.1) (fun hHeld => ?_)
          refine dag_take (i := 0) (v := ?vt0) rfl rfl (by kernel_rfl) (by kernel_rfl) (by kernel_rfl) (fun _ _ _ h => h) (Or.inl ⟨by kernel_rfl, fun w' hSw => ?hyt0⟩) (by assumption) ?restt0
          case hyt0 => ((try dsimp only at hSw); go_simp; (try with_reducible rfl))
          simp only [Act.put]
          refine dag_take (i := 1) (v := ?vt1) rfl rfl (by kernel_rfl) (by kernel_rfl) (by kernel_rfl) (fun _ _ _ h => h) (Or.inl ⟨by kernel_rfl, fun w' hSw => ?hyt1⟩) (by assumption) ?restt1
          case hyt1 => ((try dsimp only at hSw); go_simp; (try with_reducible rfl))
          simp only [Act.put]
          refine dag_take (i := 2) (v := ?vt2) rfl rfl (by kernel_rfl) (by kernel_rfl) (by kernel_rfl) (fun _ _ _ h => h) (Or.inl ⟨by kernel_rfl, fun w' hSw => ?hyt2⟩) (by assumption) ?restt2
          case hyt2 => ((try dsimp only at hSw); go_simp; (try with_reducible rfl))
          simp only [Act.put]
          refine dag_take (i := 3) (v := ?vt3) rfl rfl (by kernel_rfl) (by kernel_rfl) (by kernel_rfl) (fun _ _ _ h => h) (Or.inl ⟨by kernel_rfl, fun w' hSw => ?hyt3⟩) (by assumption) ?restt3
          case hyt3 => ((try dsimp only at hSw); go_simp; (try with_reducible rfl))
          simp only [Act.put]
          refine dag_take (i := 4) (v := ?vt4) rfl rfl (by kernel_rfl) (by kernel_rfl) (by kernel_rfl) (fun _ _ _ h => h) (Or.inl ⟨by kernel_rfl, fun w' hSw => ?hyt4⟩) (by assumption) ?restt4
          case hyt4 => ((try dsimp only at hSw); go_simp; (try with_reducible rfl))
          simp only [Act.put]
          refine dag_take (i := 5) (v := ?vt5) rfl rfl (by kernel_rfl) (by kernel_rfl) (by kernel_rfl) (fun _ _ _ h => h) (Or.inl ⟨by kernel_rfl, fun w' hSw => ?hyt5⟩) (by assumption) ?restt5
          case hyt5 => ((try dsimp only at hSw); go_simp; (try with_reducible rfl))
          simp only [Act.put]
          refine dag_take (i := 7) (v := ?vt7) rfl rfl (by kernel_rfl) (by kernel_rfl) (by kernel_rfl) (fun _ _ _ h => h) (Or.inl ⟨by kernel_rfl, fun w' hSw => ?hyt7⟩) (by assumption) ?restt7
          case hyt7 => ((try dsimp only at hSw); go_simp; (try with_reducible rfl))
          simp only [Act.put]
          refine dag_take (i := 8) (v := ?vt8) rfl rfl (by kernel_rfl) (by kernel_rfl) (by kernel_rfl) (fun _ _ _ h => h) (Or.inl ⟨by kernel_rfl, fun w' hSw => ?hyt8⟩) (by assumption) ?restt8
          case hyt8 => ((try dsimp only at hSw); go_simp; (try with_reducible rfl))
          simp only [Act.put]
          refine dag_take (i := 9) (v := ?vt9) rfl rfl (by kernel_rfl) (by kernel_rfl) (by kernel_rfl) (fun _ _ _ h => h) (Or.inl ⟨by kernel_rfl, fun w' hSw => ?hyt9⟩) (by assumption) ?restt9
          case hyt9 => ((try dsimp only at hSw); go_simp; (try with_reducible rfl))
          simp only [Act.put]
          refine dag_take (i := 10) (v := ?vt10) rfl rfl (by kernel_rfl) (by kernel_rfl) (by kernel_rfl) (fun _ _ _ h => h) (Or.inl ⟨by kernel_rfl, fun w' hSw => ?hyt10⟩) (by assumption) ?restt10
          case hyt10 => ((try dsimp only at hSw); go_simp; (try with_reducible rfl))
          simp only [Act.put]
          refine dag_take (i := 11) (v := ?vt11) rfl rfl (by kernel_rfl) (by kernel_rfl) (by kernel_rfl) (fun _ _ _ h => h) (Or.inl ⟨by kernel_rfl, fun w' hSw => ?hyt11⟩) (by assumption) ?restt11
          case hyt11 => ((try dsimp only at hSw); go_simp; (try with_reducible rfl))
          simp only [Act.put]
          refine dag_take (i := 12) (v := ?vt12) rfl rfl (by kernel_rfl) (by kernel_rfl) (by kernel_rfl) (fun _ _ _ h => h) (Or.inl ⟨by kernel_rfl, fun w' hSw => ?hyt12⟩) (by assumption) ?restt12
          case hyt12 => ((try dsimp only at hSw); go_simp; (try with_reducible rfl))
          simp only [Act.put]
          refine dag_take (i := 14) (v := ?vt14) rfl rfl (by kernel_rfl) (by kernel_rfl) (by kernel_rfl) (fun _ _ _ h => h) (Or.inl ⟨by kernel_rfl, fun w' hSw => ?hyt14⟩) (by assumption) ?restt14
          case hyt14 => ((try dsimp only at hSw); go_simp; (try with_reducible rfl))
          simp only [Act.put]
          refine dag_take (i := 15) (v := ?vt15) rfl rfl (by kernel_rfl) (by kernel_rfl) (by kernel_rfl) (fun _ _ _ h => h) (Or.inl ⟨by kernel_rfl, fun w' hSw => ?hyt15⟩) (by assumption) ?restt15
          case hyt15 => ((try dsimp only at hSw); go_simp; (try with_reducible rfl))
          simp only [Act.put]
          refine dag_take (i := 16) (v := ?vt16) rfl rfl (by kernel_rfl) (by kernel_rfl) (by kernel_rfl) (fun _ _ _ h => h) (Or.inl ⟨by kernel_rfl, fun w' hSw => ?hyt16⟩) (by assumption) ?restt16
          case hyt16 => ((try dsimp only at hSw); go_simp; (try with_reducible rfl))
          simp only [Act.put]
          refine dag_take (i := 17) (v := ?vt17) rfl rfl (by kernel_rfl) (by kernel_rfl) (by kernel_rfl) (fun _ _ _ h => h) (Or.inl ⟨by kernel_rfl, fun w' hSw => ?hyt17⟩) (by assumption) ?restt17
          case hyt17 => ((try dsimp only at hSw); go_simp; (try with_reducible rfl))
          simp only [Act.put]
          have hwr : IntKind.i64.wrap (n - 1) = n - 1 := IntWalk.i64_in _ (by omega)
          simp only [hwr]
          clear hwr
          generalize W9.drew = V0 at HP0 ⊢
          clear hHeld
          refine dag_of2 (fun G T hG1 hG2 hT => ?_)
          refine dag_frame6 36 43 48 6 7 8 (fun F hF => ?_)
          simp [go_sem, Act.put] at hF
          replace hF := Lib.hid hF
          have st0 : Hid (∀ (p0 p1 p2 : Value) (V : World) (K : Act → World → Prop), (∀ V2, Below V.heap.size V V2 → K (F (.agg #[.int .i64 (natN x0 (n - 1)), .int .i64 (natE x0 (n - 1))]) undef undef p0 p1 p2) V2) → T 6 (F undef undef undef p0 p1 p2) V K) := Lib.hid (by
            intro p0 p1 p2 V K hk
            have HK := Lib.hid hk
            clear hk
            refine (hT 6 _ rfl _ _ _).1 ?_
            rw [hF.out]
            go_simp
            refine (HC0.out V).mono ?_
            rintro e V2 ⟨rfl, hb⟩
            have hh := HK.out V2 hb
            rw [hF.out] at hh
            exact hh)
          have st1 : Hid (∀ (p0 p1 p2 : Value) (V : World) (K : Act → World → Prop), (∀ V2, Below V.heap.size V V2 → K (F (.agg #[.int .i64 (natN x0 (n - 1)), .int .i64 (natE x0 (n - 1))]) (.agg #[.int .i64 (natN x1 (n - 1)), .int .i64 (natE x1 (n - 1))]) undef p0 p1 p2) V2) → T 13 (F (.agg #[.int .i64 (natN x0 (n - 1)), .int .i64 (natE x0 (n - 1))]) undef undef p0 p1 p2) V K) := Lib.hid (by
            intro p0 p1 p2 V K hk
            have HK := Lib.hid hk
            clear hk
            refine (hT 13 _ rfl _ _ _).1 ?_
            rw [hF.out]
            go_simp
            refine (HC1.out V).mono ?_
            rintro e V2 ⟨rfl, hb⟩
            have hh := HK.out V2 hb
            rw [hF.out] at hh
            exact hh)
          have st2 : Hid (∀ (p0 p1 p2 : Value) (V : World) (K : Act → World → Prop), (∀ V2, Below V.heap.size V V2 → K (F (.agg #[.int .i64 (natN x0 (n - 1)), .int .i64 (natE x0 (n - 1))]) (.agg #[.int .i64 (natN x1 (n - 1)), .int .i64 (natE x1 (n - 1))]) (.agg #[.int .i64 (natN x2 2147483648), .int .i64 (natE x2 2147483648)]) p0 p1 p2) V2) → T 18 (F (.agg #[.int .i64 (natN x0 (n - 1)), .int .i64 (natE x0 (n - 1))]) (.agg #[.int .i64 (natN x1 (n - 1)), .int .i64 (natE x1 (n - 1))]) undef p0 p1 p2) V K) := Lib.hid (by
            intro p0 p1 p2 V K hk
            have HK := Lib.hid hk
            clear hk
            refine (hT 18 _ rfl _ _ _).1 ?_
            rw [hF.out]
            go_simp
            refine (HC2.out V).mono ?_
            rintro e V2 ⟨rfl, hb⟩
            have hh := HK.out V2 hb
            rw [hF.out] at hh
            exact hh)
          have nd3_7 : Hid (∀ (X0 X1 X2 : Nat) (V : World), Hid (VarsSt W9 [some X0, some X1, some X2] V) → G 3 #[true, true, true, true, true, true, true, true, true, true, true, true, true, true, true, true, true, true, true, true, true, true, false, false, false] (F (.agg #[.int .i64 (natN x0 (n - 1)), .int .i64 (natE x0 (n - 1))]) (.agg #[.int .i64 (natN x1 (n - 1)), .int .i64 (natE x1 (n - 1))]) (.agg #[.int .i64 (natN x2 2147483648), .int .i64 (natE x2 2147483648)]) (.pointer (some ⟨X0, 0, none⟩)) (.pointer (some ⟨X1, 0, none⟩)) (.pointer (some ⟨X2, 0, none⟩))) V) := Lib.hid (by
            intro X0 X1 X2 V HP
            rw [hF.out]
            refine hG1 _ _ _ _ ?_
            have n01 : X0 ≠ X1 := HP.out.2.2 0 1 X0 X1 rfl rfl (by decide)
            have n02 : X0 ≠ X2 := HP.out.2.2 0 2 X0 X2 rfl rfl (by decide)
            have n12 : X1 ≠ X2 := HP.out.2.2 1 2 X1 X2 rfl rfl (by decide)
            have g0 := (HP.out.2.1 X0 (by simp)).1
            have g1 := (HP.out.2.1 X1 (by simp)).1
            have g2 := (HP.out.2.1 X2 (by simp)).1
            obtain ⟨c0, c1, p0, p1⟩ := (HP.out.2.1 X0 (by simp)).2
            have lt0 := ((HP.out.2.1 X0 (by simp)).2).lt
            have HA0 : Hid (Below W9.heap.size W9 ((V.setCell ⟨X0, 0, none⟩ (.int .i64 (natN x0 (n - 1)))).setCell ⟨X0, 1, none⟩ (.int .i64 (natE x0 (n - 1)))) ∧ TwoAt X0 ((V.setCell ⟨X0, 0, none⟩ (.int .i64 (natN x0 (n - 1)))).setCell ⟨X0, 1, none⟩ (.int .i64 (natE x0 (n - 1)))) (.int .i64 (natN x0 (n - 1))) (.int .i64 (natE x0 (n - 1))) ∧ TwoAt X1 ((V.setCell ⟨X0, 0, none⟩ (.int .i64 (natN x0 (n - 1)))).setCell ⟨X0, 1, none⟩ (.int .i64 (natE x0 (n - 1)))) (.int .i64 (0)) (.int .i64 (0)) ∧ TwoAt X2 ((V.setCell ⟨X0, 0, none⟩ (.int .i64 (natN x0 (n - 1)))).setCell ⟨X0, 1, none⟩ (.int .i64 (natE x0 (n - 1)))) (.int .i64 (0)) (.int .i64 (0))) := Lib.hid ⟨below_lay2 (HP.out.1) g0, ((HP.out.2.1 X0 (by simp)).2).set _ _, two_other ((HP.out.2.1 X1 (by simp)).2) (fun e => n01 e.symm) _ _, two_other ((HP.out.2.1 X2 (by simp)).2) (fun e => n02 e.symm) _ _⟩
            refine wpAnyH_ready (rs := [22]) (by kernel_rfl) (by simp) ?_
            refine AllReadyH.cons rfl (fun K hK => ?_) AllReadyH.nil
            go_simp
            refine hK.out _ _ (hkeep.out _ HA0.out.1) (fun hHeld => ?_)
            clear hK K hHeld c0 c1 p0 p1
            generalize ((V.setCell ⟨X0, 0, none⟩ (.int .i64 (natN x0 (n - 1)))).setCell ⟨X0, 1, none⟩ (.int .i64 (natE x0 (n - 1)))) = Y0 at *
            obtain ⟨c0, c1, p0, p1⟩ := HA0.out.2.2.1
            have lt1 := (HA0.out.2.2.1).lt
            have HA1 : Hid (Below W9.heap.size W9 ((Y0.setCell ⟨X1, 0, none⟩ (.int .i64 (natN x1 (n - 1)))).setCell ⟨X1, 1, none⟩ (.int .i64 (natE x1 (n - 1)))) ∧ TwoAt X0 ((Y0.setCell ⟨X1, 0, none⟩ (.int .i64 (natN x1 (n - 1)))).setCell ⟨X1, 1, none⟩ (.int .i64 (natE x1 (n - 1)))) (.int .i64 (natN x0 (n - 1))) (.int .i64 (natE x0 (n - 1))) ∧ TwoAt X1 ((Y0.setCell ⟨X1, 0, none⟩ (.int .i64 (natN x1 (n - 1)))).setCell ⟨X1, 1, none⟩ (.int .i64 (natE x1 (n - 1)))) (.int .i64 (natN x1 (n - 1))) (.int .i64 (natE x1 (n - 1))) ∧ TwoAt X2 ((Y0.setCell ⟨X1, 0, none⟩ (.int .i64 (natN x1 (n - 1)))).setCell ⟨X1, 1, none⟩ (.int .i64 (natE x1 (n - 1)))) (.int .i64 (0)) (.int .i64 (0))) := Lib.hid ⟨below_lay2 (HA0.out.1) g1, two_other (HA0.out.2.1) n01 _ _, (HA0.out.2.2.1).set _ _, two_other (HA0.out.2.2.2) (fun e => n12 e.symm) _ _⟩
            refine wpAnyH_ready (rs := [23]) (by kernel_rfl) (by simp) ?_
            refine AllReadyH.cons rfl (fun K hK => ?_) AllReadyH.nil
            go_simp
            refine hK.out _ _ (hkeep.out _ HA1.out.1) (fun hHeld => ?_)
            clear hK K hHeld c0 c1 p0 p1 HA0
            generalize ((Y0.setCell ⟨X1, 0, none⟩ (.int .i64 (natN x1 (n - 1)))).setCell ⟨X1, 1, none⟩ (.int .i64 (natE x1 (n - 1)))) = Y1 at *
            obtain ⟨c0, c1, p0, p1⟩ := HA1.out.2.2.2
            have lt2 := (HA1.out.2.2.2).lt
            have HA2 : Hid (Below W9.heap.size W9 ((Y1.setCell ⟨X2, 0, none⟩ (.int .i64 (natN x2 2147483648))).setCell ⟨X2, 1, none⟩ (.int .i64 (natE x2 2147483648))) ∧ TwoAt X0 ((Y1.setCell ⟨X2, 0, none⟩ (.int .i64 (natN x2 2147483648))).setCell ⟨X2, 1, none⟩ (.int .i64 (natE x2 2147483648))) (.int .i64 (natN x0 (n - 1))) (.int .i64 (natE x0 (n - 1))) ∧ TwoAt X1 ((Y1.setCell ⟨X2, 0, none⟩ (.int .i64 (natN x2 2147483648))).setCell ⟨X2, 1, none⟩ (.int .i64 (natE x2 2147483648))) (.int .i64 (natN x1 (n - 1))) (.int .i64 (natE x1 (n - 1))) ∧ TwoAt X2 ((Y1.setCell ⟨X2, 0, none⟩ (.int .i64 (natN x2 2147483648))).setCell ⟨X2, 1, none⟩ (.int .i64 (natE x2 2147483648))) (.int .i64 (natN x2 2147483648)) (.int .i64 (natE x2 2147483648))) := Lib.hid ⟨below_lay2 (HA1.out.1) g2, two_other (HA1.out.2.1) n02 _ _, two_other (HA1.out.2.2.1) n12 _ _, (HA1.out.2.2.2).set _ _⟩
            refine wpAnyH_ready (rs := [24]) (by kernel_rfl) (by simp) ?_
            refine AllReadyH.cons rfl (fun K hK => ?_) AllReadyH.nil
            go_simp
            refine hK.out _ _ (hkeep.out _ HA2.out.1) (fun hHeld => ?_)
            clear hK K hHeld c0 c1 p0 p1 HA1
            generalize ((Y1.setCell ⟨X2, 0, none⟩ (.int .i64 (natN x2 2147483648))).setCell ⟨X2, 1, none⟩ (.int .i64 (natE x2 2147483648))) = Y2 at *
            refine wpAnyH_done (by kernel_rfl) ?_ _
            go_wp2_with fail
            go_meet
            case rel => exact ⟨X0, X1, X2, rfl, rfl, rfl, HA2⟩)
          have nd2_7 : Hid (∀ (X0 X1 X2 : Nat) (V : World), Hid (VarsSt W9 [some X0, some X1, some X2] V) → G 4 #[true, true, true, true, true, true, true, true, true, true, true, true, true, true, true, true, true, true, false, true, true, true, false, false, false] (F (.agg #[.int .i64 (natN x0 (n - 1)), .int .i64 (natE x0 (n - 1))]) (.agg #[.int .i64 (natN x1 (n - 1)), .int .i64 (natE x1 (n - 1))]) undef (.pointer (some ⟨X0, 0, none⟩)) (.pointer (some ⟨X1, 0, none⟩)) (.pointer (some ⟨X2, 0, none⟩))) V) := Lib.hid (by
            intro X0 X1 X2 V HP
            rw [hF.out]
            refine hG1 _ _ _ _ ?_
            refine wpAnyH_ready (rs := [18]) (by kernel_rfl) (by simp) ?_
            refine AllReadyH.cons rfl (fun K hK => ?_) AllReadyH.nil
            refine (hT 18 _ rfl _ _ _).2 ?_
            have hs := st2.out (.pointer (some ⟨X0, 0, none⟩)) (.pointer (some ⟨X1, 0, none⟩)) (.pointer (some ⟨X2, 0, none⟩)) V K (fun V2 hb => by
              rw [hF.out]
              have HQ := Lib.hid (HP.out.keep hb)
              refine hK.out _ _ (hkeep.out _ HQ.out.1) (fun hHeld => ?_)
              refine hG2 _ _ _ _ ?_
              have hh := nd3_7.out X0 X1 X2 _ HQ
              rw [hF.out] at hh
              exact dag_at hh rfl (by kernel_rfl) rfl)
            rw [hF.out] at hs
            exact hs)
          have nd3_3 : Hid (∀ (X0 X1 : Nat) (V : World), Hid (VarsSt W9 [some X0, some X1, none] V) → G 4 #[true, true, true, true, true, true, true, true, true, true, true, true, true, true, true, true, true, true, true, true, true, false, false, false, false] (F (.agg #[.int .i64 (natN x0 (n - 1)), .int .i64 (natE x0 (n - 1))]) (.agg #[.int .i64 (natN x1 (n - 1)), .int .i64 (natE x1 (n - 1))]) (.agg #[.int .i64 (natN x2 2147483648), .int .i64 (natE x2 2147483648)]) (.pointer (some ⟨X0, 0, none⟩)) (.pointer (some ⟨X1, 0, none⟩)) undef) V) := Lib.hid (by
            intro X0 X1 V HP
            rw [hF.out]
            refine hG1 _ _ _ _ ?_
            refine wpAnyH_ready (rs := [21]) (by kernel_rfl) (by simp) ?_
            refine AllReadyH.cons rfl (fun K hK => ?_) AllReadyH.nil
            go_simp
            have HQ := Lib.hid (HP.out.alloc 2 64)
            refine hK.out _ _ (hkeep.out _ HQ.out.1) (fun hHeld => ?_)
            refine hG2 _ _ _ _ ?_
            have hh := nd3_7.out X0 X1 V.heap.size _ HQ
            rw [hF.out] at hh
            exact dag_at hh rfl (by kernel_rfl) rfl)
          have nd3_5 : Hid (∀ (X0 X2 : Nat) (V : World), Hid (VarsSt W9 [some X0, none, some X2] V) → G 4 #[true, true, true, true, true, true, true, true, true, true, true, true, true, true, true, true, true, true, true, true, false, true, false, false, false] (F (.agg #[.int .i64 (natN x0 (n - 1)), .int .i64 (natE x0 (n - 1))]) (.agg #[.int .i64 (natN x1 (n - 1)), .int .i64 (natE x1 (n - 1))]) (.agg #[.int .i64 (natN x2 2147483648), .int .i64 (natE x2 2147483648)]) (.pointer (some ⟨X0, 0, none⟩)) undef (.pointer (some ⟨X2, 0, none⟩))) V) := Lib.hid (by
            intro X0 X2 V HP
            rw [hF.out]
            refine hG1 _ _ _ _ ?_
            refine wpAnyH_ready (rs := [20]) (by kernel_rfl) (by simp) ?_
            refine AllReadyH.cons rfl (fun K hK => ?_) AllReadyH.nil
            go_simp
            have HQ := Lib.hid (HP.out.alloc 1 64)
            refine hK.out _ _ (hkeep.out _ HQ.out.1) (fun hHeld => ?_)
            refine hG2 _ _ _ _ ?_
            have hh := nd3_7.out X0 V.heap.size X2 _ HQ
            rw [hF.out] at hh
            exact dag_at hh rfl (by kernel_rfl) rfl)
          have nd3_6 : Hid (∀ (X1 X2 : Nat) (V : World), Hid (VarsSt W9 [none, some X1, some X2] V) → G 4 #[true, true, true, true, true, true, true, true, true, true, true, true, true, true, true, true, true, true, true, false, true, true, false, false, false] (F (.agg #[.int .i64 (natN x0 (n - 1)), .int .i64 (natE x0 (n - 1))]) (.agg #[.int .i64 (natN x1 (n - 1)), .int .i64 (natE x1 (n - 1))]) (.agg #[.int .i64 (natN x2 2147483648), .int .i64 (natE x2 2147483648)]) undef (.pointer (some ⟨X1, 0, none⟩)) (.pointer (some ⟨X2, 0, none⟩))) V) := Lib.hid (by
            intro X1 X2 V HP
            rw [hF.out]
            refine hG1 _ _ _ _ ?_
            refine wpAnyH_ready (rs := [19]) (by kernel_rfl) (by simp) ?_
            refine AllReadyH.cons rfl (fun K hK => ?_) AllReadyH.nil
            go_simp
            have HQ := Lib.hid (HP.out.alloc 0 64)
            refine hK.out _ _ (hkeep.out _ HQ.out.1) (fun hHeld => ?_)
            refine hG2 _ _ _ _ ?_
            have hh := nd3_7.out V.heap.size X1 X2 _ HQ
            rw [hF.out] at hh
            exact dag_at hh rfl (by kernel_rfl) rfl)
          have nd1_7 : Hid (∀ (X0 X1 X2 : Nat) (V : World), Hid (VarsSt W9 [some X0, some X1, some X2] V) → G 5 #[true, true, true, true, true, true, true, true, true, true, true, true, true, false, true, true, true, true, false, true, true, true, false, false, false] (F (.agg #[.int .i64 (natN x0 (n - 1)), .int .i64 (natE x0 (n - 1))]) undef undef (.pointer (some ⟨X0, 0, none⟩)) (.pointer (some ⟨X1, 0, none⟩)) (.pointer (some ⟨X2, 0, none⟩))) V) := Lib.hid (by
            intro X0 X1 X2 V HP
            rw [hF.out]
            refine hG1 _ _ _ _ ?_
            refine wpAnyH_ready (rs := [13]) (by kernel_rfl) (by simp) ?_
            refine AllReadyH.cons rfl (fun K hK => ?_) AllReadyH.nil
            refine (hT 13 _ rfl _ _ _).2 ?_
            have hs := st1.out (.pointer (some ⟨X0, 0, none⟩)) (.pointer (some ⟨X1, 0, none⟩)) (.pointer (some ⟨X2, 0, none⟩)) V K (fun V2 hb => by
              rw [hF.out]
              have HQ := Lib.hid (HP.out.keep hb)
              refine hK.out _ _ (hkeep.out _ HQ.out.1) (fun hHeld => ?_)
              refine hG2 _ _ _ _ ?_
              have hh := nd2_7.out X0 X1 X2 _ HQ
              rw [hF.out] at hh
              exact dag_at hh rfl (by kernel_rfl) rfl)
            rw [hF.out] at hs
            exact hs)
          have nd2_3 : Hid (∀ (X0 X1 : Nat) (V : World), Hid (VarsSt W9 [some X0, some X1, none] V) → G 5 #[true, true, true, true, true, true, true, true, true, true, true, true, true, true, true, true, true, true, false, true, true, false, false, false, false] (F (.agg #[.int .i64 (natN x0 (n - 1)), .int .i64 (natE x0 (n - 1))]) (.agg #[.int .i64 (natN x1 (n - 1)), .int .i64 (natE x1 (n - 1))]) undef (.pointer (some ⟨X0, 0, none⟩)) (.pointer (some ⟨X1, 0, none⟩)) undef) V) := Lib.hid (by
            intro X0 X1 V HP
            rw [hF.out]
            refine hG1 _ _ _ _ ?_
            refine wpAnyH_ready (rs := [18, 21]) (by kernel_rfl) (by simp) ?_
            refine AllReadyH.cons rfl (fun K hK => ?_) (AllReadyH.cons rfl (fun K hK => ?_) AllReadyH.nil)
            · refine (hT 18 _ rfl _ _ _).2 ?_
              have hs := st2.out (.pointer (some ⟨X0, 0, none⟩)) (.pointer (some ⟨X1, 0, none⟩)) undef V K (fun V2 hb => by
                rw [hF.out]
                have HQ := Lib.hid (HP.out.keep hb)
                refine hK.out _ _ (hkeep.out _ HQ.out.1) (fun hHeld => ?_)
                refine hG2 _ _ _ _ ?_
                have hh := nd3_3.out X0 X1 _ HQ
                rw [hF.out] at hh
                exact dag_at hh rfl (by kernel_rfl) rfl)
              rw [hF.out] at hs
              exact hs
            · go_simp
              have HQ := Lib.hid (HP.out.alloc 2 64)
              refine hK.out _ _ (hkeep.out _ HQ.out.1) (fun hHeld => ?_)
              refine hG2 _ _ _ _ ?_
              have hh := nd2_7.out X0 X1 V.heap.size _ HQ
              rw [hF.out] at hh
              exact dag_at hh rfl (by kernel_rfl) rfl)
          have nd2_5 : Hid (∀ (X0 X2 : Nat) (V : World), Hid (VarsSt W9 [some X0, none, some X2] V) → G 5 #[true, true, true, true, true, true, true, true, true, true, true, true, true, true, true, true, true, true, false, true, false, true, false, false, false] (F (.agg #[.int .i64 (natN x0 (n - 1)), .int .i64 (natE x0 (n - 1))]) (.agg #[.int .i64 (natN x1 (n - 1)), .int .i64 (natE x1 (n - 1))]) undef (.pointer (some ⟨X0, 0, none⟩)) undef (.pointer (some ⟨X2, 0, none⟩))) V) := Lib.hid (by
            intro X0 X2 V HP
            rw [hF.out]
            refine hG1 _ _ _ _ ?_
            refine wpAnyH_ready (rs := [18, 20]) (by kernel_rfl) (by simp) ?_
            refine AllReadyH.cons rfl (fun K hK => ?_) (AllReadyH.cons rfl (fun K hK => ?_) AllReadyH.nil)
            · refine (hT 18 _ rfl _ _ _).2 ?_
              have hs := st2.out (.pointer (some ⟨X0, 0, none⟩)) undef (.pointer (some ⟨X2, 0, none⟩)) V K (fun V2 hb => by
                rw [hF.out]
                have HQ := Lib.hid (HP.out.keep hb)
                refine hK.out _ _ (hkeep.out _ HQ.out.1) (fun hHeld => ?_)
                refine hG2 _ _ _ _ ?_
                have hh := nd3_5.out X0 X2 _ HQ
                rw [hF.out] at hh
                exact dag_at hh rfl (by kernel_rfl) rfl)
              rw [hF.out] at hs
              exact hs
            · go_simp
              have HQ := Lib.hid (HP.out.alloc 1 64)
              refine hK.out _ _ (hkeep.out _ HQ.out.1) (fun hHeld => ?_)
              refine hG2 _ _ _ _ ?_
              have hh := nd2_7.out X0 V.heap.size X2 _ HQ
              rw [hF.out] at hh
              exact dag_at hh rfl (by kernel_rfl) rfl)
          have nd2_6 : Hid (∀ (X1 X2 : Nat) (V : World), Hid (VarsSt W9 [none, some X1, some X2] V) → G 5 #[true, true, true, true, true, true, true, true, true, true, true, true, true, true, true, true, true, true, false, false, true, true, false, false, false] (F (.agg #[.int .i64 (natN x0 (n - 1)), .int .i64 (natE x0 (n - 1))]) (.agg #[.int .i64 (natN x1 (n - 1)), .int .i64 (natE x1 (n - 1))]) undef undef (.pointer (some ⟨X1, 0, none⟩)) (.pointer (some ⟨X2, 0, none⟩))) V) := Lib.hid (by
            intro X1 X2 V HP
            rw [hF.out]
            refine hG1 _ _ _ _ ?_
            refine wpAnyH_ready (rs := [18, 19]) (by kernel_rfl) (by simp) ?_
            refine AllReadyH.cons rfl (fun K hK => ?_) (AllReadyH.cons rfl (fun K hK => ?_) AllReadyH.nil)
            · refine (hT 18 _ rfl _ _ _).2 ?_
              have hs := st2.out undef (.pointer (some ⟨X1, 0, none⟩)) (.pointer (some ⟨X2, 0, none⟩)) V K (fun V2 hb => by
                rw [hF.out]
                have HQ := Lib.hid (HP.out.keep hb)
                refine hK.out _ _ (hkeep.out _ HQ.out.1) (fun hHeld => ?_)
                refine hG2 _ _ _ _ ?_
                have hh := nd3_6.out X1 X2 _ HQ
                rw [hF.out] at hh
                exact dag_at hh rfl (by kernel_rfl) rfl)
              rw [hF.out] at hs
              exact hs
            · go_simp
              have HQ := Lib.hid (HP.out.alloc 0 64)
              refine hK.out _ _ (hkeep.out _ HQ.out.1) (fun hHeld => ?_)
              refine hG2 _ _ _ _ ?_
              have hh := nd2_7.out V.heap.size X1 X2 _ HQ
              rw [hF.out] at hh
              exact dag_at hh rfl (by kernel_rfl) rfl)
          have nd3_1 : Hid (∀ (X0 : Nat) (V : World), Hid (VarsSt W9 [some X0, none, none] V) → G 5 #[true, true, true, true, true, true, true, true, true, true, true, true, true, true, true, true, true, true, true, true, false, false, false, false, false] (F (.agg #[.int .i64 (natN x0 (n - 1)), .int .i64 (natE x0 (n - 1))]) (.agg #[.int .i64 (natN x1 (n - 1)), .int .i64 (natE x1 (n - 1))]) (.agg #[.int .i64 (natN x2 2147483648), .int .i64 (natE x2 2147483648)]) (.pointer (some ⟨X0, 0, none⟩)) undef undef) V) := Lib.hid (by
            intro X0 V HP
            rw [hF.out]
            refine hG1 _ _ _ _ ?_
            refine wpAnyH_ready (rs := [20, 21]) (by kernel_rfl) (by simp) ?_
            refine AllReadyH.cons rfl (fun K hK => ?_) (AllReadyH.cons rfl (fun K hK => ?_) AllReadyH.nil)
            · go_simp
              have HQ := Lib.hid (HP.out.alloc 1 64)
              refine hK.out _ _ (hkeep.out _ HQ.out.1) (fun hHeld => ?_)
              refine hG2 _ _ _ _ ?_
              have hh := nd3_3.out X0 V.heap.size _ HQ
              rw [hF.out] at hh
              exact dag_at hh rfl (by kernel_rfl) rfl
            · go_simp
              have HQ := Lib.hid (HP.out.alloc 2 64)
              refine hK.out _ _ (hkeep.out _ HQ.out.1) (fun hHeld => ?_)
              refine hG2 _ _ _ _ ?_
              have hh := nd3_5.out X0 V.heap.size _ HQ
              rw [hF.out] at hh
              exact dag_at hh rfl (by kernel_rfl) rfl)
          have nd3_2 : Hid (∀ (X1 : Nat) (V : World), Hid (VarsSt W9 [none, some X1, none] V) → G 5 #[true, true, true, true, true, true, true, true, true, true, true, true, true, true, true, true, true, true, true, false, true, false, false, false, false] (F (.agg #[.int .i64 (natN x0 (n - 1)), .int .i64 (natE x0 (n - 1))]) (.agg #[.int .i64 (natN x1 (n - 1)), .int .i64 (natE x1 (n - 1))]) (.agg #[.int .i64 (natN x2 2147483648), .int .i64 (natE x2 2147483648)]) undef (.pointer (some ⟨X1, 0, none⟩)) undef) V) := Lib.hid (by
            intro X1 V HP
            rw [hF.out]
            refine hG1 _ _ _ _ ?_
            refine wpAnyH_ready (rs := [19, 21]) (by kernel_rfl) (by simp) ?_
            refine AllReadyH.cons rfl (fun K hK => ?_) (AllReadyH.cons rfl (fun K hK => ?_) AllReadyH.nil)
            · go_simp
              have HQ := Lib.hid (HP.out.alloc 0 64)
              refine hK.out _ _ (hkeep.out _ HQ.out.1) (fun hHeld => ?_)
              refine hG2 _ _ _ _ ?_
              have hh := nd3_3.out V.heap.size X1 _ HQ
              rw [hF.out] at hh
              exact dag_at hh rfl (by kernel_rfl) rfl
            · go_simp
              have HQ := Lib.hid (HP.out.alloc 2 64)
              refine hK.out _ _ (hkeep.out _ HQ.out.1) (fun hHeld => ?_)
              refine hG2 _ _ _ _ ?_
              have hh := nd3_6.out X1 V.heap.size _ HQ
              rw [hF.out] at hh
              exact dag_at hh rfl (by kernel_rfl) rfl)
          have nd3_4 : Hid (∀ (X2 : Nat) (V : World), Hid (VarsSt W9 [none, none, some X2] V) → G 5 #[true, true, true, true, true, true, true, true, true, true, true, true, true, true, true, true, true, true, true, false, false, true, false, false, false] (F (.agg #[.int .i64 (natN x0 (n - 1)), .int .i64 (natE x0 (n - 1))]) (.agg #[.int .i64 (natN x1 (n - 1)), .int .i64 (natE x1 (n - 1))]) (.agg #[.int .i64 (natN x2 2147483648), .int .i64 (natE x2 2147483648)]) undef undef (.pointer (some ⟨X2, 0, none⟩))) V) := Lib.hid (by
            intro X2 V HP
            rw [hF.out]
            refine hG1 _ _ _ _ ?_
            refine wpAnyH_ready (rs := [19, 20]) (by kernel_rfl) (by simp) ?_
            refine AllReadyH.cons rfl (fun K hK => ?_) (AllReadyH.cons rfl (fun K hK => ?_) AllReadyH.nil)
            · go_simp
              have HQ := Lib.hid (HP.out.alloc 0 64)
              refine hK.out _ _ (hkeep.out _ HQ.out.1) (fun hHeld => ?_)
              refine hG2 _ _ _ _ ?_
              have hh := nd3_5.out V.heap.size X2 _ HQ
              rw [hF.out] at hh
              exact dag_at hh rfl (by kernel_rfl) rfl
            · go_simp
              have HQ := Lib.hid (HP.out.alloc 1 64)
              refine hK.out _ _ (hkeep.out _ HQ.out.1) (fun hHeld => ?_)
              refine hG2 _ _ _ _ ?_
              have hh := nd3_6.out V.heap.size X2 _ HQ
              rw [hF.out] at hh
              exact dag_at hh rfl (by kernel_rfl) rfl)
          have nd0_7 : Hid (∀ (X0 X1 X2 : Nat) (V : World), Hid (VarsSt W9 [some X0, some X1, some X2] V) → G 6 #[true, true, true, true, true, true, false, true, true, true, true, true, true, false, true, true, true, true, false, true, true, true, false, false, false] (F undef undef undef (.pointer (some ⟨X0, 0, none⟩)) (.pointer (some ⟨X1, 0, none⟩)) (.pointer (some ⟨X2, 0, none⟩))) V) := Lib.hid (by
            intro X0 X1 X2 V HP
            rw [hF.out]
            refine hG1 _ _ _ _ ?_
            refine wpAnyH_ready (rs := [6]) (by kernel_rfl) (by simp) ?_
            refine AllReadyH.cons rfl (fun K hK => ?_) AllReadyH.nil
            refine (hT 6 _ rfl _ _ _).2 ?_
            have hs := st0.out (.pointer (some ⟨X0, 0, none⟩)) (.pointer (some ⟨X1, 0, none⟩)) (.pointer (some ⟨X2, 0, none⟩)) V K (fun V2 hb => by
              rw [hF.out]
              have HQ := Lib.hid (HP.out.keep hb)
              refine hK.out _ _ (hkeep.out _ HQ.out.1) (fun hHeld => ?_)
              refine hG2 _ _ _ _ ?_
              have hh := nd1_7.out X0 X1 X2 _ HQ
              rw [hF.out] at hh
              exact dag_at hh rfl (by kernel_rfl) rfl)
            rw [hF.out] at hs
            exact hs)
          have nd1_3 : Hid (∀ (X0 X1 : Nat) (V : World), Hid (VarsSt W9 [some X0, some X1, none] V) → G 6 #[true, true, true, true, true, true, true, true, true, true, true, true, true, false, true, true, true, true, false, true, true, false, false, false, false] (F (.agg #[.int .i64 (natN x0 (n - 1)), .int .i64 (natE x0 (n - 1))]) undef undef (.pointer (some ⟨X0, 0, none⟩)) (.pointer (some ⟨X1, 0, none⟩)) undef) V) := Lib.hid (by
            intro X0 X1 V HP
            rw [hF.out]
            refine hG1 _ _ _ _ ?_
            refine wpAnyH_ready (rs := [13, 21]) (by kernel_rfl) (by simp) ?_
            refine AllReadyH.cons rfl (fun K hK => ?_) (AllReadyH.cons rfl (fun K hK => ?_) AllReadyH.nil)
            · refine (hT 13 _ rfl _ _ _).2 ?_
              have hs := st1.out (.pointer (some ⟨X0, 0, none⟩)) (.pointer (some ⟨X1, 0, none⟩)) undef V K (fun V2 hb => by
                rw [hF.out]
                have HQ := Lib.hid (HP.out.keep hb)
                refine hK.out _ _ (hkeep.out _ HQ.out.1) (fun hHeld => ?_)
                refine hG2 _ _ _ _ ?_
                have hh := nd2_3.out X0 X1 _ HQ
                rw [hF.out] at hh
                exact dag_at hh rfl (by kernel_rfl) rfl)
              rw [hF.out] at hs
              exact hs
            · go_simp
              have HQ := Lib.hid (HP.out.alloc 2 64)
              refine hK.out _ _ (hkeep.out _ HQ.out.1) (fun hHeld => ?_)
              refine hG2 _ _ _ _ ?_
              have hh := nd1_7.out X0 X1 V.heap.size _ HQ
              rw [hF.out] at hh
              exact dag_at hh rfl (by kernel_rfl) rfl)
          have nd1_5 : Hid (∀ (X0 X2 : Nat) (V : World), Hid (VarsSt W9 [some X0, none, some X2] V) → G 6 #[true, true, true, true, true, true, true, true, true, true, true, true, true, false, true, true, true, true, false, true, false, true, false, false, false] (F (.agg #[.int .i64 (natN x0 (n - 1)), .int .i64 (natE x0 (n - 1))]) undef undef (.pointer (some ⟨X0, 0, none⟩)) undef (.pointer (some ⟨X2, 0, none⟩))) V) := Lib.hid (by
            intro X0 X2 V HP
            rw [hF.out]
            refine hG1 _ _ _ _ ?_
            refine wpAnyH_ready (rs := [13, 20]) (by kernel_rfl) (by simp) ?_
            refine AllReadyH.cons rfl (fun K hK => ?_) (AllReadyH.cons rfl (fun K hK => ?_) AllReadyH.nil)
            · refine (hT 13 _ rfl _ _ _).2 ?_
              have hs := st1.out (.pointer (some ⟨X0, 0, none⟩)) undef (.pointer (some ⟨X2, 0, none⟩)) V K (fun V2 hb => by
                rw [hF.out]
                have HQ := Lib.hid (HP.out.keep hb)
                refine hK.out _ _ (hkeep.out _ HQ.out.1) (fun hHeld => ?_)
                refine hG2 _ _ _ _ ?_
                have hh := nd2_5.out X0 X2 _ HQ
                rw [hF.out] at hh
                exact dag_at hh rfl (by kernel_rfl) rfl)
              rw [hF.out] at hs
              exact hs
            · go_simp
              have HQ := Lib.hid (HP.out.alloc 1 64)
              refine hK.out _ _ (hkeep.out _ HQ.out.1) (fun hHeld => ?_)
              refine hG2 _ _ _ _ ?_
              have hh := nd1_7.out X0 V.heap.size X2 _ HQ
              rw [hF.out] at hh
              exact dag_at hh rfl (by kernel_rfl) rfl)
          have nd1_6 : Hid (∀ (X1 X2 : Nat) (V : World), Hid (VarsSt W9 [none, some X1, some X2] V) → G 6 #[true, true, true, true, true, true, true, true, true, true, true, true, true, false, true, true, true, true, false, false, true, true, false, false, false] (F (.agg #[.int .i64 (natN x0 (n - 1)), .int .i64 (natE x0 (n - 1))]) undef undef undef (.pointer (some ⟨X1, 0, none⟩)) (.pointer (some ⟨X2, 0, none⟩))) V) := Lib.hid (by
            intro X1 X2 V HP
            rw [hF.out]
            refine hG1 _ _ _ _ ?_
            refine wpAnyH_ready (rs := [13, 19]) (by kernel_rfl) (by simp) ?_
            refine AllReadyH.cons rfl (fun K hK => ?_) (AllReadyH.cons rfl (fun K hK => ?_) AllReadyH.nil)
            · refine (hT 13 _ rfl _ _ _).2 ?_
              have hs := st1.out undef (.pointer (some ⟨X1, 0, none⟩)) (.pointer (some ⟨X2, 0, none⟩)) V K (fun V2 hb => by
                rw [hF.out]
                have HQ := Lib.hid (HP.out.keep hb)
                refine hK.out _ _ (hkeep.out _ HQ.out.1) (fun hHeld => ?_)
                refine hG2 _ _ _ _ ?_
                have hh := nd2_6.out X1 X2 _ HQ
                rw [hF.out] at hh
                exact dag_at hh rfl (by kernel_rfl) rfl)
              rw [hF.out] at hs
              exact hs
            · go_simp
              have HQ := Lib.hid (HP.out.alloc 0 64)
              refine hK.out _ _ (hkeep.out _ HQ.out.1) (fun hHeld => ?_)
              refine hG2 _ _ _ _ ?_
              have hh := nd1_7.out V.heap.size X1 X2 _ HQ
              rw [hF.out] at hh
              exact dag_at hh rfl (by kernel_rfl) rfl)
          have nd2_1 : Hid (∀ (X0 : Nat) (V : World), Hid (VarsSt W9 [some X0, none, none] V) → G 6 #[true, true, true, true, true, true, true, true, true, true, true, true, true, true, true, true, true, true, false, true, false, false, false, false, false] (F (.agg #[.int .i64 (natN x0 (n - 1)), .int .i64 (natE x0 (n - 1))]) (.agg #[.int .i64 (natN x1 (n - 1)), .int .i64 (natE x1 (n - 1))]) undef (.pointer (some ⟨X0, 0, none⟩)) undef undef) V) := Lib.hid (by
            intro X0 V HP
            rw [hF.out]
            refine hG1 _ _ _ _ ?_
            refine wpAnyH_ready (rs := [18, 20, 21]) (by kernel_rfl) (by simp) ?_
            refine AllReadyH.cons rfl (fun K hK => ?_) (AllReadyH.cons rfl (fun K hK => ?_) (AllReadyH.cons rfl (fun K hK => ?_) AllReadyH.nil))
            · refine (hT 18 _ rfl _ _ _).2 ?_
              have hs := st2.out (.pointer (some ⟨X0, 0, none⟩)) undef undef V K (fun V2 hb => by
                rw [hF.out]
                have HQ := Lib.hid (HP.out.keep hb)
                refine hK.out _ _ (hkeep.out _ HQ.out.1) (fun hHeld => ?_)
                refine hG2 _ _ _ _ ?_
                have hh := nd3_1.out X0 _ HQ
                rw [hF.out] at hh
                exact dag_at hh rfl (by kernel_rfl) rfl)
              rw [hF.out] at hs
              exact hs
            · go_simp
              have HQ := Lib.hid (HP.out.alloc 1 64)
              refine hK.out _ _ (hkeep.out _ HQ.out.1) (fun hHeld => ?_)
              refine hG2 _ _ _ _ ?_
              have hh := nd2_3.out X0 V.heap.size _ HQ
              rw [hF.out] at hh
              exact dag_at hh rfl (by kernel_rfl) rfl
            · go_simp
              have HQ := Lib.hid (HP.out.alloc 2 64)
              refine hK.out _ _ (hkeep.out _ HQ.out.1) (fun hHeld => ?_)
              refine hG2 _ _ _ _ ?_
              have hh := nd2_5.out X0 V.heap.size _ HQ
              rw [hF.out] at hh
              exact dag_at hh rfl (by kernel_rfl) rfl)
          have nd2_2 : Hid (∀ (X1 : Nat) (V : World), Hid (VarsSt W9 [none, some X1, none] V) → G 6 #[true, true, true, true, true, true, true, true, true, true, true, true, true, true, true, true, true, true, false, false, true, false, false, false, false] (F (.agg #[.int .i64 (natN x0 (n - 1)), .int .i64 (natE x0 (n - 1))]) (.agg #[.int .i64 (natN x1 (n - 1)), .int .i64 (natE x1 (n - 1))]) undef undef (.pointer (some ⟨X1, 0, none⟩)) undef) V) := Lib.hid (by
            intro X1 V HP
            rw [hF.out]
            refine hG1 _ _ _ _ ?_
            refine wpAnyH_ready (rs := [18, 19, 21]) (by kernel_rfl) (by simp) ?_
            refine AllReadyH.cons rfl (fun K hK => ?_) (AllReadyH.cons rfl (fun K hK => ?_) (AllReadyH.cons rfl (fun K hK => ?_) AllReadyH.nil))
            · refine (hT 18 _ rfl _ _ _).2 ?_
              have hs := st2.out undef (.pointer (some ⟨X1, 0, none⟩)) undef V K (fun V2 hb => by
                rw [hF.out]
                have HQ := Lib.hid (HP.out.keep hb)
                refine hK.out _ _ (hkeep.out _ HQ.out.1) (fun hHeld => ?_)
                refine hG2 _ _ _ _ ?_
                have hh := nd3_2.out X1 _ HQ
                rw [hF.out] at hh
                exact dag_at hh rfl (by kernel_rfl) rfl)
              rw [hF.out] at hs
              exact hs
            · go_simp
              have HQ := Lib.hid (HP.out.alloc 0 64)
              refine hK.out _ _ (hkeep.out _ HQ.out.1) (fun hHeld => ?_)
              refine hG2 _ _ _ _ ?_
              have hh := nd2_3.out V.heap.size X1 _ HQ
              rw [hF.out] at hh
              exact dag_at hh rfl (by kernel_rfl) rfl
            · go_simp
              have HQ := Lib.hid (HP.out.alloc 2 64)
              refine hK.out _ _ (hkeep.out _ HQ.out.1) (fun hHeld => ?_)
              refine hG2 _ _ _ _ ?_
              have hh := nd2_6.out X1 V.heap.size _ HQ
              rw [hF.out] at hh
              exact dag_at hh rfl (by kernel_rfl) rfl)
          have nd2_4 : Hid (∀ (X2 : Nat) (V : World), Hid (VarsSt W9 [none, none, some X2] V) → G 6 #[true, true, true, true, true, true, true, true, true, true, true, true, true, true, true, true, true, true, false, false, false, true, false, false, false] (F (.agg #[.int .i64 (natN x0 (n - 1)), .int .i64 (natE x0 (n - 1))]) (.agg #[.int .i64 (natN x1 (n - 1)), .int .i64 (natE x1 (n - 1))]) undef undef undef (.pointer (some ⟨X2, 0, none⟩))) V) := Lib.hid (by
            intro X2 V HP
            rw [hF.out]
            refine hG1 _ _ _ _ ?_
            refine wpAnyH_ready (rs := [18, 19, 20]) (by kernel_rfl) (by simp) ?_
            refine AllReadyH.cons rfl (fun K hK => ?_) (AllReadyH.cons rfl (fun K hK => ?_) (AllReadyH.cons rfl (fun K hK => ?_) AllReadyH.nil))
            · refine (hT 18 _ rfl _ _ _).2 ?_
              have hs := st2.out undef undef (.pointer (some ⟨X2, 0, none⟩)) V K (fun V2 hb => by
                rw [hF.out]
                have HQ := Lib.hid (HP.out.keep hb)
                refine hK.out _ _ (hkeep.out _ HQ.out.1) (fun hHeld => ?_)
                refine hG2 _ _ _ _ ?_
                have hh := nd3_4.out X2 _ HQ
                rw [hF.out] at hh
                exact dag_at hh rfl (by kernel_rfl) rfl)
              rw [hF.out] at hs
              exact hs
            · go_simp
              have HQ := Lib.hid (HP.out.alloc 0 64)
              refine hK.out _ _ (hkeep.out _ HQ.out.1) (fun hHeld => ?_)
              refine hG2 _ _ _ _ ?_
              have hh := nd2_5.out V.heap.size X2 _ HQ
              rw [hF.out] at hh
              exact dag_at hh rfl (by kernel_rfl) rfl
            · go_simp
              have HQ := Lib.hid (HP.out.alloc 1 64)
              refine hK.out _ _ (hkeep.out _ HQ.out.1) (fun hHeld => ?_)
              refine hG2 _ _ _ _ ?_
              have hh := nd2_6.out V.heap.size X2 _ HQ
              rw [hF.out] at hh
              exact dag_at hh rfl (by kernel_rfl) rfl)
          have nd3_0 : Hid (∀ (V : World), Hid (VarsSt W9 [none, none, none] V) → G 6 #[true, true, true, true, true, true, true, true, true, true, true, true, true, true, true, true, true, true, true, false, false, false, false, false, false] (F (.agg #[.int .i64 (natN x0 (n - 1)), .int .i64 (natE x0 (n - 1))]) (.agg #[.int .i64 (natN x1 (n - 1)), .int .i64 (natE x1 (n - 1))]) (.agg #[.int .i64 (natN x2 2147483648), .int .i64 (natE x2 2147483648)]) undef undef undef) V) := Lib.hid (by
            intro  V HP
            rw [hF.out]
            refine hG1 _ _ _ _ ?_
            refine wpAnyH_ready (rs := [19, 20, 21]) (by kernel_rfl) (by simp) ?_
            refine AllReadyH.cons rfl (fun K hK => ?_) (AllReadyH.cons rfl (fun K hK => ?_) (AllReadyH.cons rfl (fun K hK => ?_) AllReadyH.nil))
            · go_simp
              have HQ := Lib.hid (HP.out.alloc 0 64)
              refine hK.out _ _ (hkeep.out _ HQ.out.1) (fun hHeld => ?_)
              refine hG2 _ _ _ _ ?_
              have hh := nd3_1.out V.heap.size _ HQ
              rw [hF.out] at hh
              exact dag_at hh rfl (by kernel_rfl) rfl
            · go_simp
              have HQ := Lib.hid (HP.out.alloc 1 64)
              refine hK.out _ _ (hkeep.out _ HQ.out.1) (fun hHeld => ?_)
              refine hG2 _ _ _ _ ?_
              have hh := nd3_2.out V.heap.size _ HQ
              rw [hF.out] at hh
              exact dag_at hh rfl (by kernel_rfl) rfl
            · go_simp
              have HQ := Lib.hid (HP.out.alloc 2 64)
              refine hK.out _ _ (hkeep.out _ HQ.out.1) (fun hHeld => ?_)
              refine hG2 _ _ _ _ ?_
              have hh := nd3_4.out V.heap.size _ HQ
              rw [hF.out] at hh
              exact dag_at hh rfl (by kernel_rfl) rfl)
          have nd0_3 : Hid (∀ (X0 X1 : Nat) (V : World), Hid (VarsSt W9 [some X0, some X1, none] V) → G 7 #[true, true, true, true, true, true, false, true, true, true, true, true, true, false, true, true, true, true, false, true, true, false, false, false, false] (F undef undef undef (.pointer (some ⟨X0, 0, none⟩)) (.pointer (some ⟨X1, 0, none⟩)) undef) V) := Lib.hid (by
            intro X0 X1 V HP
            rw [hF.out]
            refine hG1 _ _ _ _ ?_
            refine wpAnyH_ready (rs := [6, 21]) (by kernel_rfl) (by simp) ?_
            refine AllReadyH.cons rfl (fun K hK => ?_) (AllReadyH.cons rfl (fun K hK => ?_) AllReadyH.nil)
            · refine (hT 6 _ rfl _ _ _).2 ?_
              have hs := st0.out (.pointer (some ⟨X0, 0, none⟩)) (.pointer (some ⟨X1, 0, none⟩)) undef V K (fun V2 hb => by
                rw [hF.out]
                have HQ := Lib.hid (HP.out.keep hb)
                refine hK.out _ _ (hkeep.out _ HQ.out.1) (fun hHeld => ?_)
                refine hG2 _ _ _ _ ?_
                have hh := nd1_3.out X0 X1 _ HQ
                rw [hF.out] at hh
                exact dag_at hh rfl (by kernel_rfl) rfl)
              rw [hF.out] at hs
              exact hs
            · go_simp
              have HQ := Lib.hid (HP.out.alloc 2 64)
              refine hK.out _ _ (hkeep.out _ HQ.out.1) (fun hHeld => ?_)
              refine hG2 _ _ _ _ ?_
              have hh := nd0_7.out X0 X1 V.heap.size _ HQ
              rw [hF.out] at hh
              exact dag_at hh rfl (by kernel_rfl) rfl)
          have nd0_5 : Hid (∀ (X0 X2 : Nat) (V : World), Hid (VarsSt W9 [some X0, none, some X2] V) → G 7 #[true, true, true, true, true, true, false, true, true, true, true, true, true, false, true, true, true, true, false, true, false, true, false, false, false] (F undef undef undef (.pointer (some ⟨X0, 0, none⟩)) undef (.pointer (some ⟨X2, 0, none⟩))) V) := Lib.hid (by
            intro X0 X2 V HP
            rw [hF.out]
            refine hG1 _ _ _ _ ?_
            refine wpAnyH_ready (rs := [6, 20]) (by kernel_rfl) (by simp) ?_
            refine AllReadyH.cons rfl (fun K hK => ?_) (AllReadyH.cons rfl (fun K hK => ?_) AllReadyH.nil)
            · refine (hT 6 _ rfl _ _ _).2 ?_
              have hs := st0.out (.pointer (some ⟨X0, 0, none⟩)) undef (.pointer (some ⟨X2, 0, none⟩)) V K (fun V2 hb => by
                rw [hF.out]
                have HQ := Lib.hid (HP.out.keep hb)
                refine hK.out _ _ (hkeep.out _ HQ.out.1) (fun hHeld => ?_)
                refine hG2 _ _ _ _ ?_
                have hh := nd1_5.out X0 X2 _ HQ
                rw [hF.out] at hh
                exact dag_at hh rfl (by kernel_rfl) rfl)
              rw [hF.out] at hs
              exact hs
            · go_simp
              have HQ := Lib.hid (HP.out.alloc 1 64)
              refine hK.out _ _ (hkeep.out _ HQ.out.1) (fun hHeld => ?_)
              refine hG2 _ _ _ _ ?_
              have hh := nd0_7.out X0 V.heap.size X2 _ HQ
              rw [hF.out] at hh
              exact dag_at hh rfl (by kernel_rfl) rfl)
          have nd0_6 : Hid (∀ (X1 X2 : Nat) (V : World), Hid (VarsSt W9 [none, some X1, some X2] V) → G 7 #[true, true, true, true, true, true, false, true, true, true, true, true, true, false, true, true, true, true, false, false, true, true, false, false, false] (F undef undef undef undef (.pointer (some ⟨X1, 0, none⟩)) (.pointer (some ⟨X2, 0, none⟩))) V) := Lib.hid (by
            intro X1 X2 V HP
            rw [hF.out]
            refine hG1 _ _ _ _ ?_
            refine wpAnyH_ready (rs := [6, 19]) (by kernel_rfl) (by simp) ?_
            refine AllReadyH.cons rfl (fun K hK => ?_) (AllReadyH.cons rfl (fun K hK => ?_) AllReadyH.nil)
            · refine (hT 6 _ rfl _ _ _).2 ?_
              have hs := st0.out undef (.pointer (some ⟨X1, 0, none⟩)) (.pointer (some ⟨X2, 0, none⟩)) V K (fun V2 hb => by
                rw [hF.out]
                have HQ := Lib.hid (HP.out.keep hb)
                refine hK.out _ _ (hkeep.out _ HQ.out.1) (fun hHeld => ?_)
                refine hG2 _ _ _ _ ?_
                have hh := nd1_6.out X1 X2 _ HQ
                rw [hF.out] at hh
                exact dag_at hh rfl (by kernel_rfl) rfl)
              rw [hF.out] at hs
              exact hs
            · go_simp
              have HQ := Lib.hid (HP.out.alloc 0 64)
              refine hK.out _ _ (hkeep.out _ HQ.out.1) (fun hHeld => ?_)
              refine hG2 _ _ _ _ ?_
              have hh := nd0_7.out V.heap.size X1 X2 _ HQ
              rw [hF.out] at hh
              exact dag_at hh rfl (by kernel_rfl) rfl)
          have nd1_1 : Hid (∀ (X0 : Nat) (V : World), Hid (VarsSt W9 [some X0, none, none] V) → G 7 #[true, true, true, true, true, true, true, true, true, true, true, true, true, false, true, true, true, true, false, true, false, false, false, false, false] (F (.agg #[.int .i64 (natN x0 (n - 1)), .int .i64 (natE x0 (n - 1))]) undef undef (.pointer (some ⟨X0, 0, none⟩)) undef undef) V) := Lib.hid (by
            intro X0 V HP
            rw [hF.out]
            refine hG1 _ _ _ _ ?_
            refine wpAnyH_ready (rs := [13, 20, 21]) (by kernel_rfl) (by simp) ?_
            refine AllReadyH.cons rfl (fun K hK => ?_) (AllReadyH.cons rfl (fun K hK => ?_) (AllReadyH.cons rfl (fun K hK => ?_) AllReadyH.nil))
            · refine (hT 13 _ rfl _ _ _).2 ?_
              have hs := st1.out (.pointer (some ⟨X0, 0, none⟩)) undef undef V K (fun V2 hb => by
                rw [hF.out]
                have HQ := Lib.hid (HP.out.keep hb)
                refine hK.out _ _ (hkeep.out _ HQ.out.1) (fun hHeld => ?_)
                refine hG2 _ _ _ _ ?_
                have hh := nd2_1.out X0 _ HQ
                rw [hF.out] at hh
                exact dag_at hh rfl (by kernel_rfl) rfl)
              rw [hF.out] at hs
              exact hs
            · go_simp
              have HQ := Lib.hid (HP.out.alloc 1 64)
              refine hK.out _ _ (hkeep.out _ HQ.out.1) (fun hHeld => ?_)
              refine hG2 _ _ _ _ ?_
              have hh := nd1_3.out X0 V.heap.size _ HQ
              rw [hF.out] at hh
              exact dag_at hh rfl (by kernel_rfl) rfl
            · go_simp
              have HQ := Lib.hid (HP.out.alloc 2 64)
              refine hK.out _ _ (hkeep.out _ HQ.out.1) (fun hHeld => ?_)
              refine hG2 _ _ _ _ ?_
              have hh := nd1_5.out X0 V.heap.size _ HQ
              rw [hF.out] at hh
              exact dag_at hh rfl (by kernel_rfl) rfl)
          have nd1_2 : Hid (∀ (X1 : Nat) (V : World), Hid (VarsSt W9 [none, some X1, none] V) → G 7 #[true, true, true, true, true, true, true, true, true, true, true, true, true, false, true, true, true, true, false, false, true, false, false, false, false] (F (.agg #[.int .i64 (natN x0 (n - 1)), .int .i64 (natE x0 (n - 1))]) undef undef undef (.pointer (some ⟨X1, 0, none⟩)) undef) V) := Lib.hid (by
            intro X1 V HP
            rw [hF.out]
            refine hG1 _ _ _ _ ?_
            refine wpAnyH_ready (rs := [13, 19, 21]) (by kernel_rfl) (by simp) ?_
            refine AllReadyH.cons rfl (fun K hK => ?_) (AllReadyH.cons rfl (fun K hK => ?_) (AllReadyH.cons rfl (fun K hK => ?_) AllReadyH.nil))
            · refine (hT 13 _ rfl _ _ _).2 ?_
              have hs := st1.out undef (.pointer (some ⟨X1, 0, none⟩)) undef V K (fun V2 hb => by
                rw [hF.out]
                have HQ := Lib.hid (HP.out.keep hb)
                refine hK.out _ _ (hkeep.out _ HQ.out.1) (fun hHeld => ?_)
                refine hG2 _ _ _ _ ?_
                have hh := nd2_2.out X1 _ HQ
                rw [hF.out] at hh
                exact dag_at hh rfl (by kernel_rfl) rfl)
              rw [hF.out] at hs
              exact hs
            · go_simp
              have HQ := Lib.hid (HP.out.alloc 0 64)
              refine hK.out _ _ (hkeep.out _ HQ.out.1) (fun hHeld => ?_)
              refine hG2 _ _ _ _ ?_
              have hh := nd1_3.out V.heap.size X1 _ HQ
              rw [hF.out] at hh
              exact dag_at hh rfl (by kernel_rfl) rfl
            · go_simp
              have HQ := Lib.hid (HP.out.alloc 2 64)
              refine hK.out _ _ (hkeep.out _ HQ.out.1) (fun hHeld => ?_)
              refine hG2 _ _ _ _ ?_
              have hh := nd1_6.out X1 V.heap.size _ HQ
              rw [hF.out] at hh
              exact dag_at hh rfl (by kernel_rfl) rfl)
          have nd1_4 : Hid (∀ (X2 : Nat) (V : World), Hid (VarsSt W9 [none, none, some X2] V) → G 7 #[true, true, true, true, true, true, true, true, true, true, true, true, true, false, true, true, true, true, false, false, false, true, false, false, false] (F (.agg #[.int .i64 (natN x0 (n - 1)), .int .i64 (natE x0 (n - 1))]) undef undef undef undef (.pointer (some ⟨X2, 0, none⟩))) V) := Lib.hid (by
            intro X2 V HP
            rw [hF.out]
            refine hG1 _ _ _ _ ?_
            refine wpAnyH_ready (rs := [13, 19, 20]) (by kernel_rfl) (by simp) ?_
            refine AllReadyH.cons rfl (fun K hK => ?_) (AllReadyH.cons rfl (fun K hK => ?_) (AllReadyH.cons rfl (fun K hK => ?_) AllReadyH.nil))
            · refine (hT 13 _ rfl _ _ _).2 ?_
              have hs := st1.out undef undef (.pointer (some ⟨X2, 0, none⟩)) V K (fun V2 hb => by
                rw [hF.out]
                have HQ := Lib.hid (HP.out.keep hb)
                refine hK.out _ _ (hkeep.out _ HQ.out.1) (fun hHeld => ?_)
                refine hG2 _ _ _ _ ?_
                have hh := nd2_4.out X2 _ HQ
                rw [hF.out] at hh
                exact dag_at hh rfl (by kernel_rfl) rfl)
              rw [hF.out] at hs
              exact hs
            · go_simp
              have HQ := Lib.hid (HP.out.alloc 0 64)
              refine hK.out _ _ (hkeep.out _ HQ.out.1) (fun hHeld => ?_)
              refine hG2 _ _ _ _ ?_
              have hh := nd1_5.out V.heap.size X2 _ HQ
              rw [hF.out] at hh
              exact dag_at hh rfl (by kernel_rfl) rfl
            · go_simp
              have HQ := Lib.hid (HP.out.alloc 1 64)
              refine hK.out _ _ (hkeep.out _ HQ.out.1) (fun hHeld => ?_)
              refine hG2 _ _ _ _ ?_
              have hh := nd1_6.out V.heap.size X2 _ HQ
              rw [hF.out] at hh
              exact dag_at hh rfl (by kernel_rfl) rfl)
          have nd2_0 : Hid (∀ (V : World), Hid (VarsSt W9 [none, none, none] V) → G 7 #[true, true, true, true, true, true, true, true, true, true, true, true, true, true, true, true, true, true, false, false, false, false, false, false, false] (F (.agg #[.int .i64 (natN x0 (n - 1)), .int .i64 (natE x0 (n - 1))]) (.agg #[.int .i64 (natN x1 (n - 1)), .int .i64 (natE x1 (n - 1))]) undef undef undef undef) V) := Lib.hid (by
            intro  V HP
            rw [hF.out]
            refine hG1 _ _ _ _ ?_
            refine wpAnyH_ready (rs := [18, 19, 20, 21]) (by kernel_rfl) (by simp) ?_
            refine AllReadyH.cons rfl (fun K hK => ?_) (AllReadyH.cons rfl (fun K hK => ?_) (AllReadyH.cons rfl (fun K hK => ?_) (AllReadyH.cons rfl (fun K hK => ?_) AllReadyH.nil)))
            · refine (hT 18 _ rfl _ _ _).2 ?_
              have hs := st2.out undef undef undef V K (fun V2 hb => by
                rw [hF.out]
                have HQ := Lib.hid (HP.out.keep hb)
                refine hK.out _ _ (hkeep.out _ HQ.out.1) (fun hHeld => ?_)
                refine hG2 _ _ _ _ ?_
                have hh := nd3_0.out  _ HQ
                rw [hF.out] at hh
                exact dag_at hh rfl (by kernel_rfl) rfl)
              rw [hF.out] at hs
              exact hs
            · go_simp
              have HQ := Lib.hid (HP.out.alloc 0 64)
              refine hK.out _ _ (hkeep.out _ HQ.out.1) (fun hHeld => ?_)
              refine hG2 _ _ _ _ ?_
              have hh := nd2_1.out V.heap.size _ HQ
              rw [hF.out] at hh
              exact dag_at hh rfl (by kernel_rfl) rfl
            · go_simp
              have HQ := Lib.hid (HP.out.alloc 1 64)
              refine hK.out _ _ (hkeep.out _ HQ.out.1) (fun hHeld => ?_)
              refine hG2 _ _ _ _ ?_
              have hh := nd2_2.out V.heap.size _ HQ
              rw [hF.out] at hh
              exact dag_at hh rfl (by kernel_rfl) rfl
            · go_simp
              have HQ := Lib.hid (HP.out.alloc 2 64)
              refine hK.out _ _ (hkeep.out _ HQ.out.1) (fun hHeld => ?_)
              refine hG2 _ _ _ _ ?_
              have hh := nd2_4.out V.heap.size _ HQ
              rw [hF.out] at hh
              exact dag_at hh rfl (by kernel_rfl) rfl)
          have nd0_1 : Hid (∀ (X0 : Nat) (V : World), Hid (VarsSt W9 [some X0, none, none] V) → G 8 #[true, true, true, true, true, true, false, true, true, true, true, true, true, false, true, true, true, true, false, true, false, false, false, false, false] (F undef undef undef (.pointer (some ⟨X0, 0, none⟩)) undef undef) V) := Lib.hid (by
            intro X0 V HP
            rw [hF.out]
            refine hG1 _ _ _ _ ?_
            refine wpAnyH_ready (rs := [6, 20, 21]) (by kernel_rfl) (by simp) ?_
            refine AllReadyH.cons rfl (fun K hK => ?_) (AllReadyH.cons rfl (fun K hK => ?_) (AllReadyH.cons rfl (fun K hK => ?_) AllReadyH.nil))
            · refine (hT 6 _ rfl _ _ _).2 ?_
              have hs := st0.out (.pointer (some ⟨X0, 0, none⟩)) undef undef V K (fun V2 hb => by
                rw [hF.out]
                have HQ := Lib.hid (HP.out.keep hb)
                refine hK.out _ _ (hkeep.out _ HQ.out.1) (fun hHeld => ?_)
                refine hG2 _ _ _ _ ?_
                have hh := nd1_1.out X0 _ HQ
                rw [hF.out] at hh
                exact dag_at hh rfl (by kernel_rfl) rfl)
              rw [hF.out] at hs
              exact hs
            · go_simp
              have HQ := Lib.hid (HP.out.alloc 1 64)
              refine hK.out _ _ (hkeep.out _ HQ.out.1) (fun hHeld => ?_)
              refine hG2 _ _ _ _ ?_
              have hh := nd0_3.out X0 V.heap.size _ HQ
              rw [hF.out] at hh
              exact dag_at hh rfl (by kernel_rfl) rfl
            · go_simp
              have HQ := Lib.hid (HP.out.alloc 2 64)
              refine hK.out _ _ (hkeep.out _ HQ.out.1) (fun hHeld => ?_)
              refine hG2 _ _ _ _ ?_
              have hh := nd0_5.out X0 V.heap.size _ HQ
              rw [hF.out] at hh
              exact dag_at hh rfl (by kernel_rfl) rfl)
          have nd0_2 : Hid (∀ (X1 : Nat) (V : World), Hid (VarsSt W9 [none, some X1, none] V) → G 8 #[true, true, true, true, true, true, false, true, true, true, true, true, true, false, true, true, true, true, false, false, true, false, false, false, false] (F undef undef undef undef (.pointer (some ⟨X1, 0, none⟩)) undef) V) := Lib.hid (by
            intro X1 V HP
            rw [hF.out]
            refine hG1 _ _ _ _ ?_
            refine wpAnyH_ready (rs := [6, 19, 21]) (by kernel_rfl) (by simp) ?_
            refine AllReadyH.cons rfl (fun K hK => ?_) (AllReadyH.cons rfl (fun K hK => ?_) (AllReadyH.cons rfl (fun K hK => ?_) AllReadyH.nil))
            · refine (hT 6 _ rfl _ _ _).2 ?_
              have hs := st0.out undef (.pointer (some ⟨X1, 0, none⟩)) undef V K (fun V2 hb => by
                rw [hF.out]
                have HQ := Lib.hid (HP.out.keep hb)
                refine hK.out _ _ (hkeep.out _ HQ.out.1) (fun hHeld => ?_)
                refine hG2 _ _ _ _ ?_
                have hh := nd1_2.out X1 _ HQ
                rw [hF.out] at hh
                exact dag_at hh rfl (by kernel_rfl) rfl)
              rw [hF.out] at hs
              exact hs
            · go_simp
              have HQ := Lib.hid (HP.out.alloc 0 64)
              refine hK.out _ _ (hkeep.out _ HQ.out.1) (fun hHeld => ?_)
              refine hG2 _ _ _ _ ?_
              have hh := nd0_3.out V.heap.size X1 _ HQ
              rw [hF.out] at hh
              exact dag_at hh rfl (by kernel_rfl) rfl
            · go_simp
              have HQ := Lib.hid (HP.out.alloc 2 64)
              refine hK.out _ _ (hkeep.out _ HQ.out.1) (fun hHeld => ?_)
              refine hG2 _ _ _ _ ?_
              have hh := nd0_6.out X1 V.heap.size _ HQ
              rw [hF.out] at hh
              exact dag_at hh rfl (by kernel_rfl) rfl)
          have nd0_4 : Hid (∀ (X2 : Nat) (V : World), Hid (VarsSt W9 [none, none, some X2] V) → G 8 #[true, true, true, true, true, true, false, true, true, true, true, true, true, false, true, true, true, true, false, false, false, true, false, false, false] (F undef undef undef undef undef (.pointer (some ⟨X2, 0, none⟩))) V) := Lib.hid (by
            intro X2 V HP
            rw [hF.out]
            refine hG1 _ _ _ _ ?_
            refine wpAnyH_ready (rs := [6, 19, 20]) (by kernel_rfl) (by simp) ?_
            refine AllReadyH.cons rfl (fun K hK => ?_) (AllReadyH.cons rfl (fun K hK => ?_) (AllReadyH.cons rfl (fun K hK => ?_) AllReadyH.nil))
            · refine (hT 6 _ rfl _ _ _).2 ?_
              have hs := st0.out undef undef (.pointer (some ⟨X2, 0, none⟩)) V K (fun V2 hb => by
                rw [hF.out]
                have HQ := Lib.hid (HP.out.keep hb)
                refine hK.out _ _ (hkeep.out _ HQ.out.1) (fun hHeld => ?_)
                refine hG2 _ _ _ _ ?_
                have hh := nd1_4.out X2 _ HQ
                rw [hF.out] at hh
                exact dag_at hh rfl (by kernel_rfl) rfl)
              rw [hF.out] at hs
              exact hs
            · go_simp
              have HQ := Lib.hid (HP.out.alloc 0 64)
              refine hK.out _ _ (hkeep.out _ HQ.out.1) (fun hHeld => ?_)
              refine hG2 _ _ _ _ ?_
              have hh := nd0_5.out V.heap.size X2 _ HQ
              rw [hF.out] at hh
              exact dag_at hh rfl (by kernel_rfl) rfl
            · go_simp
              have HQ := Lib.hid (HP.out.alloc 1 64)
              refine hK.out _ _ (hkeep.out _ HQ.out.1) (fun hHeld => ?_)
              refine hG2 _ _ _ _ ?_
              have hh := nd0_6.out V.heap.size X2 _ HQ
              rw [hF.out] at hh
              exact dag_at hh rfl (by kernel_rfl) rfl)
          have nd1_0 : Hid (∀ (V : World), Hid (VarsSt W9 [none, none, none] V) → G 8 #[true, true, true, true, true, true, true, true, true, true, true, true, true, false, true, true, true, true, false, false, false, false, false, false, false] (F (.agg #[.int .i64 (natN x0 (n - 1)), .int .i64 (natE x0 (n - 1))]) undef undef undef undef undef) V) := Lib.hid (by
            intro  V HP
            rw [hF.out]
            refine hG1 _ _ _ _ ?_
            refine wpAnyH_ready (rs := [13, 19, 20, 21]) (by kernel_rfl) (by simp) ?_
            refine AllReadyH.cons rfl (fun K hK => ?_) (AllReadyH.cons rfl (fun K hK => ?_) (AllReadyH.cons rfl (fun K hK => ?_) (AllReadyH.cons rfl (fun K hK => ?_) AllReadyH.nil)))
            · refine (hT 13 _ rfl _ _ _).2 ?_
              have hs := st1.out undef undef undef V K (fun V2 hb => by
                rw [hF.out]
                have HQ := Lib.hid (HP.out.keep hb)
                refine hK.out _ _ (hkeep.out _ HQ.out.1) (fun hHeld => ?_)
                refine hG2 _ _ _ _ ?_
                have hh := nd2_0.out  _ HQ
                rw [hF.out] at hh
                exact dag_at hh rfl (by kernel_rfl) rfl)
              rw [hF.out] at hs
              exact hs
            · go_simp
              have HQ := Lib.hid (HP.out.alloc 0 64)
              refine hK.out _ _ (hkeep.out _ HQ.out.1) (fun hHeld => ?_)
              refine hG2 _ _ _ _ ?_
              have hh := nd1_1.out V.heap.size _ HQ
              rw [hF.out] at hh
              exact dag_at hh rfl (by kernel_rfl) rfl
            · go_simp
              have HQ := Lib.hid (HP.out.alloc 1 64)
              refine hK.out _ _ (hkeep.out _ HQ.out.1) (fun hHeld => ?_)
              refine hG2 _ _ _ _ ?_
              have hh := nd1_2.out V.heap.size _ HQ
              rw [hF.out] at hh
              exact dag_at hh rfl (by kernel_rfl) rfl
            · go_simp
              have HQ := Lib.hid (HP.out.alloc 2 64)
              refine hK.out _ _ (hkeep.out _ HQ.out.1) (fun hHeld => ?_)
              refine hG2 _ _ _ _ ?_
              have hh := nd1_4.out V.heap.size _ HQ
              rw [hF.out] at hh
              exact dag_at hh rfl (by kernel_rfl) rfl)
          have nd0_0 : Hid (∀ (V : World), Hid (VarsSt W9 [none, none, none] V) → G 9 #[true, true, true, true, true, true, false, true, true, true, true, true, true, false, true, true, true, true, false, false, false, false, false, false, false] (F undef undef undef undef undef undef) V) := Lib.hid (by
            intro  V HP
            rw [hF.out]
            refine hG1 _ _ _ _ ?_
            refine wpAnyH_ready (rs := [6, 19, 20, 21]) (by kernel_rfl) (by simp) ?_
            refine AllReadyH.cons rfl (fun K hK => ?_) (AllReadyH.cons rfl (fun K hK => ?_) (AllReadyH.cons rfl (fun K hK => ?_) (AllReadyH.cons rfl (fun K hK => ?_) AllReadyH.nil)))
            · refine (hT 6 _ rfl _ _ _).2 ?_
              have hs := st0.out undef undef undef V K (fun V2 hb => by
                rw [hF.out]
                have HQ := Lib.hid (HP.out.keep hb)
                refine hK.out _ _ (hkeep.out _ HQ.out.1) (fun hHeld => ?_)
                refine hG2 _ _ _ _ ?_
                have hh := nd1_0.out  _ HQ
                rw [hF.out] at hh
                exact dag_at hh rfl (by kernel_rfl) rfl)
              rw [hF.out] at hs
              exact hs
            · go_simp
              have HQ := Lib.hid (HP.out.alloc 0 64)
              refine hK.out _ _ (hkeep.out _ HQ.out.1) (fun hHeld => ?_)
              refine hG2 _ _ _ _ ?_
              have hh := nd0_1.out V.heap.size _ HQ
              rw [hF.out] at hh
              exact dag_at hh rfl (by kernel_rfl) rfl
            · go_simp
              have HQ := Lib.hid (HP.out.alloc 1 64)
              refine hK.out _ _ (hkeep.out _ HQ.out.1) (fun hHeld => ?_)
              refine hG2 _ _ _ _ ?_
              have hh := nd0_2.out V.heap.size _ HQ
              rw [hF.out] at hh
              exact dag_at hh rfl (by kernel_rfl) rfl
            · go_simp
              have HQ := Lib.hid (HP.out.alloc 2 64)
              refine hK.out _ _ (hkeep.out _ HQ.out.1) (fun hHeld => ?_)
              refine hG2 _ _ _ _ ?_
              have hh := nd0_4.out V.heap.size _ HQ
              rw [hF.out] at hh
              exact dag_at hh rfl (by kernel_rfl) rfl)
          have hh := nd0_0.out _ HP0
          rw [hF.out] at hh
          exact dag_at hh (by kernel_rfl) (by kernel_rfl) (by first | kernel_rfl | simp [go_sem, Act.put])
        case rest =>
          obtain ⟨X0, X1, X2, rfl, rfl, rfl, HV⟩ := hcut
          obtain ⟨a0, a1, -, -⟩ := HV.out.2.1
          obtain ⟨b0, b1, -, -⟩ := HV.out.2.2.1
          obtain ⟨e0, e1, -, -⟩ := HV.out.2.2.2
          have al := HV.out.2.1.lt
          have bl := HV.out.2.2.1.lt
          have el := HV.out.2.2.2.lt
          have HBw : Hid (Below w.heap.size w wc ∧ QuadAt w.heap.size wc (.int .i64 0) (.int .i64 0) (.int .i64 0) (.int .i64 0)) := Lib.hid ⟨HB3.out.trans (HV.out.1.mono HB3.out.size), HT3.out.on HV.out.1 HT3.out.lt⟩
          obtain ⟨⟨r0, r1, r2, r3⟩, f0, f1, f2, f3⟩ := HBw.out.2.cells
          have rl := HBw.out.2.lt
          by_cases h1 : natE x0 (n - 1) = 0
          · by_cases h2 : natE x1 (n - 1) = 0
            · have hor : ¬ (natE x0 (n - 1) ≠ 0 ∨ natE x1 (n - 1) ≠ 0) := by omega
              rw [h1] at a1
              rw [h2] at b1
              by_cases h4 : natE x2 2147483648 = 0
              · have hz : hE = 0 := by rw [HHF.out, if_neg hor, if_neg (by omega)]
                have HZ : Hid (hE = 0 ∧ hX = (natN x0 (n - 1), natN x1 (n - 1), natN x2 2147483648)) := Lib.hid ⟨hz, by rw [HHH.out.2, if_pos hz]⟩
                rw [h4] at e1
                clear hz h1 h2 h4 hor HHF
                generalize natN x0 (n - 1) = y1 at *
                generalize natN x1 (n - 1) = y2 at *
                generalize natN x2 2147483648 = y3 at *
                have HF := FIN.out wc _ _ _ _ HBw.out.1 HBw.out.2 (.int .i64 y1) (.int .i64 y2) (.int .i64 y3) (.int .i64 0)
                go_wp2
                obtain ⟨⟨d0, d1, d2, d3⟩, -⟩ := HF.out.2.cells
                exact bodyPost_ret (v := .agg #[.int .i64 y1, .int .i64 y2, .int .i64 y3, .int .i64 0]) (by simp [results, Try.results10, go_sem, d0, d1, d2, d3]) rfl ⟨agg4i (by rw [HZ.out.2]) (by rw [HZ.out.2]) (by rw [HZ.out.2]) HZ.out.1.symm, HF.out.1⟩
              · have HZ := ZERO.out 5 (by rw [HHF.out, if_neg hor, if_pos h4]) (by decide)
                have t4 : (natE x2 2147483648 != 0) = true := by simpa using h4
                clear h1 h2 h4 hor HHF
                have HF := FIN.out wc _ _ _ _ HBw.out.1 HBw.out.2 (.int .i64 0) (.int .i64 0) (.int .i64 0) (.int .i64 5)
                go_wp2
                obtain ⟨⟨d0, d1, d2, d3⟩, -⟩ := HF.out.2.cells
                exact bodyPost_ret (v := .agg #[.int .i64 0, .int .i64 0, .int .i64 0, .int .i64 5]) (by simp [results, Try.results10, go_sem, d0, d1, d2, d3]) rfl ⟨agg4i (by rw [HZ.out.2]) (by rw [HZ.out.2]) (by rw [HZ.out.2]) HZ.out.1.symm, HF.out.1⟩
            · have HZ := ZERO.out 4 (by rw [HHF.out, if_pos (Or.inr h2)]) (by decide)
              have t2 : (natE x1 (n - 1) != 0) = true := by simpa using h2
              rw [h1] at a1
              clear h1 h2 HHF
              have HF := FIN.out wc _ _ _ _ HBw.out.1 HBw.out.2 (.int .i64 0) (.int .i64 0) (.int .i64 0) (.int .i64 4)
              go_wp2
              obtain ⟨⟨d0, d1, d2, d3⟩, -⟩ := HF.out.2.cells
              exact bodyPost_ret (v := .agg #[.int .i64 0, .int .i64 0, .int .i64 0, .int .i64 4]) (by simp [results, Try.results10, go_sem, d0, d1, d2, d3]) rfl ⟨agg4i (by rw [HZ.out.2]) (by rw [HZ.out.2]) (by rw [HZ.out.2]) HZ.out.1.symm, HF.out.1⟩
          · have HZ := ZERO.out 4 (by rw [HHF.out, if_pos (Or.inl h1)]) (by decide)
            have t1 : (natE x0 (n - 1) != 0) = true := by simpa using h1
            clear h1 HHF
            have HF := FIN.out wc _ _ _ _ HBw.out.1 HBw.out.2 (.int .i64 0) (.int .i64 0) (.int .i64 0) (.int .i64 4)
            go_wp2
            obtain ⟨⟨d0, d1, d2, d3⟩, -⟩ := HF.out.2.cells
            exact bodyPost_ret (v := .agg #[.int .i64 0, .int .i64 0, .int .i64 0, .int .i64 4]) (by simp [results, Try.results10, go_sem, d0, d1, d2, d3]) rfl ⟨agg4i (by rw [HZ.out.2]) (by rw [HZ.out.2]) (by rw [HZ.out.2]) HZ.out.1.symm, HF.out.1⟩
    · rw [HFm.out, decide_eq_false hfm] at HCF
      have HZ : Hid (hE = 2 ∧ hX = (0, 0, 0)) := Lib.hid (by
        have h1 : hE = 2 := by rw [HHH.out.1, if_neg hfm]
        exact ⟨h1, by rw [HHH.out.2, if_neg (by omega)]⟩)
      clear hfm HFm
      go_wp2_with fail
      refine HCF.out.mono ?_
      rintro e w2 ⟨rfl, hb3⟩
      have HB3 := Lib.hid (HB2.out.trans (hb3.mono HB2.out.size))
      have HT3 := Lib.hid (HT2.out.on hb3 rl)
      clear hb3 r0 r1 r2 r3 f0 f1 f2 f3 rl k0 k1 m0 m1 m2
      obtain ⟨⟨r0, r1, r2, r3⟩, f0, f1, f2, f3⟩ := HT3.out.cells
      have rl := HT3.out.lt
      have HF := FIN.out w2 _ _ _ _ HB3.out HT3.out (.int .i64 0) (.int .i64 0) (.int .i64 0) (.int .i64 2)
      go_wp2
      obtain ⟨⟨d0, d1, d2, d3⟩, -⟩ := HF.out.2.cells
      exact bodyPost_ret (v := .agg #[.int .i64 0, .int .i64 0, .int .i64 0, .int .i64 2]) (by simp [results, Try.results10, go_sem, d0, d1, d2, d3]) rfl ⟨agg4i (by rw [HZ.out.2]) (by rw [HZ.out.2]) (by rw [HZ.out.2]) HZ.out.1.symm, HF.out.1⟩
  · have HZ := Lib.hid (HBad.out h3)
    have t3 : ((l.length : Int) != 3) = true := by rw [bne_iff_ne]; omega
    have HF := FIN.out W1 _ _ _ _ HB2.out HT2.out (.int .i64 0) (.int .i64 0) (.int .i64 0) (.int .i64 2)
    clear h3
    cases b with
    | true =>
      go_wp2
      obtain ⟨⟨d0, d1, d2, d3⟩, -⟩ := HF.out.2.cells
      exact bodyPost_ret (v := .agg #[.int .i64 0, .int .i64 0, .int .i64 0, .int .i64 2]) (by simp [results, Try.results10, go_sem, d0, d1, d2, d3]) rfl ⟨agg4i (by rw [HZ.out.2]) (by rw [HZ.out.2]) (by rw [HZ.out.2]) HZ.out.1.symm, HF.out.1⟩
    | false =>
      go_wp2
      obtain ⟨⟨d0, d1, d2, d3⟩, -⟩ := HF.out.2.cells
      exact bodyPost_ret (v := .agg #[.int .i64 0, .int .i64 0, .int .i64 0, .int .i64 2]) (by simp [results, Try.results10, go_sem, d0, d1, d2, d3]) rfl ⟨agg4i (by rw [HZ.out.2]) (by rw [HZ.out.2]) (by rw [HZ.out.2]) HZ.out.1.symm, HF.out.1⟩
end Go.Proofs.Ytflnmkgpmjefhaa.Gr
