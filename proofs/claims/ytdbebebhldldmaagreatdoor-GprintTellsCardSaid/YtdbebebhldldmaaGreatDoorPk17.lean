/- Contracts: a graph's three texts, as the program puts them together (layer 18). -/
import Derived.Test.YtdbebebhldldmaaGreatDoorPk10
import Derived.Test.YtdbebebhldldmaaGreatDoorPk14
import Derived.Test.YtdbebebhldldmaaGreatDoorPk15
import Derived.Test.YtdbebebhldldmaaGreatDoorPk16
import Derived.BigQuiet
namespace Go.Proofs.YtdbebebhldldmaaGreatDoor.Gp
open Go.RowKit Go.ChangeShapes WordPure Str Wd EdPure NtPure GpPure
set_option maxRecDepth 100000 in
theorem progPrint_any (p : Option Addr) (N : Nat) (M : List Ed) (hN : N ≤ 4096) (hG : GoodN N M) (hM : M.length ≤ 100000) (hC : cntL M ≤ 100000) (w : World) (h : NetAt p N M w) (hT : Ten w) :
    Calls Tryz.prog 8 #[.pointer p] w fun e w' => e = .returned (.string ⟨(prP p N M).toArray⟩) ∧ Below w.heap.size w w' := by
  have HN := Lib.hid h
  have HT := Lib.hid hT
  have HG := Lib.hid hG
  have HI : Hid (InL M) := Lib.hid fun x hx => (hG.1.2 x hx).2
  have hB : splitB M = true := splitB_yes hG.non (by omega)
  have HR : Hid (splitR M = splitL M) := Lib.hid (splitR_yes hB)
  have HIS : Hid (InL (splitL M)) := Lib.hid (split_in HI.out hG.non)
  have HL : Hid ((splitL M).length ≤ 100000) := Lib.hid (by rw [EdPure.split_len]; exact hC)
  cases p with
  | none =>
    clear h hT hG hB
    go_enter Tryz.func8, Tryz.ntmps8
    go_wp2
    go_ret
    exact ⟨rfl, Below.refl _ _⟩
  | some g =>
    have HP : Hid (prP (some g) N M = textP N (splitL M)) := Lib.hid (if_neg (by simp))
    have g0 : (binOp .eql 24 (.pointer (some g)) (.pointer none)).run Tryz.prog w = .ok (.bool false) w := by rfl
    rw [HP.out]
    clear h hT hG hB
    go_enter Tryz.func8, Tryz.ntmps8
    go_wp2_with fail
    refine (edges_any (some g) N M (by omega) w HN.out).mono ?_
    rintro e w1 ⟨hb1, q1, c1, rfl, hr1⟩
    have HB1 := Lib.hid hb1
    have HN1 := Lib.hid (HN.out.over hb1)
    have HT1 := Lib.hid (HT.out.on hb1)
    have HE1 := Lib.hid hr1
    clear hb1 hr1 HN HT g0
    go_wp2_with fail
    refine (split_any q1 c1 M (by omega) HI.out w1 HE1.out).mono ?_
    rintro e w2 ⟨hb2, q2, c2, rfl, hr2⟩
    rw [HR.out] at hr2 ⊢
    have HB2 := Lib.hid (HB1.out.trans (hb2.mono HB1.out.size))
    have HN2 := Lib.hid (HN1.out.over hb2)
    have HT2 := Lib.hid (HT1.out.on hb2)
    have HE2 := Lib.hid hr2
    clear hb2 hr2 HN1 HT1 HB1 HE1
    go_wp2_with fail
    refine (num_any (some g) N M w2 HN2.out).mono ?_
    rintro e w3 ⟨rfl, hb3⟩
    have HB3 := Lib.hid (HB2.out.trans (hb3.mono HB2.out.size))
    have HT3 := Lib.hid (HT2.out.on hb3)
    have HE3 := Lib.hid (HE2.out.over hb3 (Nat.le_refl _))
    clear hb3 HN2 HT2 HB2 HE2
    go_wp2_with fail
    refine (textOf_any (N : Int) (by unfold In; omega) q2 c2 (splitL M) (by have := HL.out; omega) HIS.out w3 HE3.out HT3.out).mono ?_
    rintro e w4 ⟨rfl, hb4⟩
    have HB4 := Lib.hid (HB3.out.trans (hb4.mono HB3.out.size))
    clear hb4
    go_wp2
    go_ret
    exact ⟨rfl, HB4.out⟩
/-! ### As dot draws it -/
theorem sum_zero {f : Int → Int} : ∀ l : List Int, (∀ x ∈ l, 0 < f x) → 0 ≤ (l.map f).sum ∧ ((l.map f).sum = 0 → l = [])
  | [], _ => ⟨by simp, fun _ => rfl⟩
  | x :: r, h => by
    obtain ⟨h1, -⟩ := sum_zero r fun y hy => h y (by simp [hy])
    have h2 := h x (by simp)
    rw [List.map_cons, List.sum_cons]
    exact ⟨by omega, fun h3 => by omega⟩
theorem iso_all (M : List Ed) (N : Nat) (hG : GoodN N M) (k : Nat) : degV N M (k : Int) = 0 ↔ nearE M (k : Int) = [] := by
  rw [degV_eq hG, ← near_sum hG (k : Int)]
  exact ⟨(sum_zero (f := weiE M (k : Int)) _ fun x hx => by rw [wei_symm]; exact (near_mem hG (k : Int) x).1 hx).2, fun h => by rw [h]; rfl⟩
theorem dotE_join (e : Ed) : joinC 32 [Lib.itoa e.1, [45, 45], Lib.itoa e.2.1, [91] ++ Lib.itoa e.2.2 ++ [93, 59]] ++ [10] = dotE e := by
  unfold dotE
  simp [joinC]
def dotH (_N : Nat) (M : List Ed) (k : Nat) : List UInt8 := [103, 114, 97, 112, 104, 32, 123, 10] ++ isoP M k
theorem dotH_size (N : Nat) (M : List Ed) {k : Nat} (hk : k ≤ 4096) : (dotH N M k).length ≤ 100000 := by
  have := iso_size M (k := k) (by omega)
  unfold dotH
  simp only [List.length_append, List.length_cons, List.length_nil]
  omega
set_option maxRecDepth 100000 in
set_option maxHeartbeats 4000000 in
theorem progDot_any (p : Option Addr) (N : Nat) (M : List Ed) (hN : N ≤ 4096) (hG : GoodN N M) (hM : M.length ≤ 100000) (w : World) (h : NetAt p N M w) (hT : Ten w) :
    Calls Tryz.prog 9 #[.pointer p] w fun e w' => e = .returned (.string ⟨(dtP p N M).toArray⟩) ∧ Below w.heap.size w w' := by
  have HN := Lib.hid h
  have HT := Lib.hid hT
  have HG := Lib.hid hG
  have HI : Hid (InL M) := Lib.hid fun x hx => (hG.1.2 x hx).2
  cases p with
  | none =>
    clear h hT hG
    go_enter Tryz.func9, Tryz.ntmps9
    go_wp2
    go_ret
    exact ⟨rfl, Below.refl _ _⟩
  | some g =>
    have HP : Hid (dtP (some g) N M = dotP N M) := Lib.hid (if_neg (by simp))
    have g0 : (binOp .eql 24 (.pointer (some g)) (.pointer none)).run Tryz.prog w = .ok (.bool false) w := by rfl
    rw [HP.out]
    clear h hT hG
    go_enter Tryz.func9, Tryz.ntmps9
    go_wp2_with fail
    refine (newTx_any w).mono ?_
    rintro e w1 ⟨rfl, hs1⟩
    have HF1 := Lib.hid hs1
    clear hs1 g0
    go_wp2_with fail
    refine (putLine_any HF1.out ((Below.refl _ _).alloc (Nat.le_refl _) _) _ [[103, 114, 97, 112, 104], [123]] _ rfl (txt_two rfl rfl w1 _) (by unfold Short; decide) (by simp)).mono ?_
    rintro e w2 ⟨rfl, hs2, -⟩
    have HF2 : Hid (TxSt w (dotH N M 0) w2) := Lib.hid hs2
    clear hs2 HF1
    go_wp2_with fail
    refine (num_any (some g) N M w2 (HN.out.over HF2.out.1)).mono ?_
    rintro e w3 ⟨rfl, hb3⟩
    have HF3 := Lib.hid (HF2.out.keep hb3)
    clear hb3 HF2
    go_wp2
    go_loopw [19] (fun i wr => ∃ k : Nat, i = .int .i64 k ∧ k ≤ N ∧ Hid (TxSt w (dotH N M k) wr)) (fun i _ => N - (intOf i).toNat)
    case atStart => exact ⟨0, rfl, Nat.zero_le _, HF3⟩
    case round =>
      clear HF3
      obtain ⟨k, rfl, hk, HF⟩ := hrel
      by_cases hlt : k < N
      · have i1 : (k : Int) < (N : Int) := by omega
        have HZ := Lib.hid (dotH_size N M (k := k) (by omega))
        have HD := Lib.hid (iso_all M N HG.out k)
        have HS := Lib.hid (iso_succ M k)
        have HIK : Hid (In (k : Int)) := Lib.hid (by unfold In; omega)
        have HDG := Lib.hid (degree_any (some g) N M (k : Int) wr (HN.out.over HF.out.1))
        generalize degV N M (k : Int) = d at *
        go_wp2_with fail
        refine HDG.out.mono ?_
        rintro e w4 ⟨rfl, hb4⟩
        have HF4 := Lib.hid (HF.out.keep hb4)
        clear hb4 HF HDG
        by_cases hd : d = 0
        · have td : (d == 0) = true := by rw [hd]; rfl
          have HX : Hid (dotH N M (k + 1) = dotH N M k ++ (joinC 32 [Lib.itoa (k : Int) ++ [59]] ++ [10])) := Lib.hid (by
            unfold dotH
            rw [HS.out, if_pos (HD.out.1 hd)]
            simp [joinC])
          clear hd HS HD
          obtain ⟨X, hX⟩ : ∃ X : ByteArray, X = ⟨(Lib.itoa (k : Int)).toArray⟩ := ⟨_, rfl⟩
          have HXX := Lib.hid hX
          have HP1 := Lib.hid (fun w hT => number_any (k : Int) HIK.out w hT)
          rw [← hX] at HP1
          have hsX : X.size ≤ 20 := by rw [hX]; show (Lib.itoa (k : Int)).toArray.size ≤ _; rw [List.size_toArray]; exact itoa_size HIK.out
          have HSH : Hid (Short 10000000 [Lib.itoa (k : Int) ++ [59]]) := Lib.hid (by
            have := itoa_size HIK.out
            unfold Short
            simp only [Lib.lens, List.map_cons, List.map_nil, List.sum_cons, List.sum_nil, List.length_cons, List.length_nil, List.length_append]
            omega)
          have HXC : Hid (X ++ ⟨#[59]⟩ = ⟨(Lib.itoa (k : Int) ++ [59]).toArray⟩) := Lib.hid (by
            rw [hX, show (⟨#[59]⟩ : ByteArray) = ⟨[59].toArray⟩ from rfl, cat_bytes])
          clear hX
          go_wp2_with fail
          refine (HP1.out _ (HT.out.on HF4.out.1)).mono ?_
          rintro e w5 ⟨rfl, hb5⟩
          have HF5 := Lib.hid (HF4.out.keep hb5)
          clear hb5 HF4 HP1
          go_wp2_with fail
          refine (putLine_any HF5.out ((Below.refl _ _).alloc (Nat.le_refl _) _) _ [Lib.itoa (k : Int) ++ [59]] _ rfl (txt_one HXC.out w5 _) HSH.out (by have := HZ.out; omega)).mono ?_
          rintro e w6 ⟨rfl, hs6, -⟩
          have HF6 : Hid (TxSt w (dotH N M (k + 1)) w6) := Lib.hid (by rw [HX.out]; exact hs6)
          clear hs6 HF5
          go_wp2
          go_roundw
          case rel => exact ⟨k + 1, by go_num, hlt, HF6⟩
          case measure => simp [intOf]; omega
        · have td : (d == 0) = false := by simpa using hd
          have HX : Hid (dotH N M (k + 1) = dotH N M k) := Lib.hid (by
            unfold dotH
            rw [HS.out, if_neg (fun h => hd (HD.out.2 h)), List.append_nil])
          clear hd HS HD
          have HF6 : Hid (TxSt w (dotH N M (k + 1)) w4) := Lib.hid (by rw [HX.out]; exact HF4.out)
          clear HF4
          go_wp2
          go_roundw
          case rel => exact ⟨k + 1, by go_num, hlt, HF6⟩
          case measure => simp [intOf]; omega
      · have hke : k = N := by omega
        have i1 : ¬ (k : Int) < (N : Int) := by omega
        have HF0 : Hid (TxSt w (dotH N M N) wr) := Lib.hid (by rw [hke] at HF; exact HF.out)
        have HZ := Lib.hid (dotH_size N M (k := N) hN)
        have HZ2 : Hid (∀ j, (dotH N M N ++ dotsP (M.take j)).length ≤ 10000000000) := Lib.hid (fun j => by
          have h1 := dots_size (L := M.take j) fun e he => HI.out e (List.mem_of_mem_take he)
          have h2 := HZ.out
          rw [List.length_take] at h1
          rw [List.length_append]
          omega)
        clear HF hke
        go_wp2_with fail
        refine (edgesO_any (some g) N M (by omega) wr (HN.out.over HF0.out.1)).mono ?_
        rintro e w4 ⟨hb4, v4, rfl, ho4⟩
        have hr4 : EdOwn M v4 w4 := ⟨_, ho4⟩
        clear ho4
        obtain ⟨q, c, rfl⟩ := hr4.slice
        have HR := Lib.hid hr4
        have HF4 : Hid (TxSt w (dotH N M N ++ dotsP (M.take 0)) w4) := Lib.hid (by
          have : dotsP (M.take 0) = [] := rfl
          rw [this, List.append_nil]
          exact HF0.out.keep hb4)
        have HB4 : Hid (Below w.heap.size w w4) := Lib.hid HF4.out.1
        clear hb4 hr4 HF0
        go_wp2
        go_loopw [36] (fun i wr => ∃ k : Nat, i = .int .i64 k ∧ k ≤ M.length ∧ Hid (TxSt w (dotH N M N ++ dotsP (M.take k)) wr ∧ EdOwn M (.slice q M.length c) wr)) (fun i _ => M.length - (intOf i).toNat)
        case atStart => exact ⟨0, rfl, Nat.zero_le _, Lib.hid ⟨HF4.out, HR.out⟩⟩
        case round =>
          clear HF4 HR
          obtain ⟨k, rfl, hk, HF⟩ := hrel
          by_cases hlt : k < M.length
          · obtain ⟨u, v, x, he⟩ : ∃ u v x, M[k] = (u, v, x) := ⟨_, _, _, rfl⟩
            obtain ⟨b, off, hae, hbw, hbr, c0, c1, c2⟩ := HF.out.2.reads.1.cells hlt (Below.refl _ _) he
            have hin := HI.out _ (List.getElem_mem hlt)
            rw [he] at hin
            have HL : Hid (dotsP (M.take (k + 1)) = dotsP (M.take k) ++ (joinC 32 [Lib.itoa u, [45, 45], Lib.itoa v, [91] ++ Lib.itoa x ++ [93, 59]] ++ [10])) := Lib.hid (by rw [dots_take hlt, he, dotE_join (u, v, x)])
            have HZ := Lib.hid (HZ2.out k)
            obtain ⟨X, hX⟩ : ∃ X : ByteArray, X = ⟨(Lib.itoa u).toArray⟩ := ⟨_, rfl⟩
            obtain ⟨Y, hY⟩ : ∃ Y : ByteArray, Y = ⟨(Lib.itoa v).toArray⟩ := ⟨_, rfl⟩
            obtain ⟨Z, hZ⟩ : ∃ Z : ByteArray, Z = ⟨(Lib.itoa x).toArray⟩ := ⟨_, rfl⟩
            have HX := Lib.hid hX
            have HY := Lib.hid hY
            have HU : Hid (⟨#[91]⟩ ++ Z ++ ⟨#[93, 59]⟩ = (⟨([91] ++ Lib.itoa x ++ [93, 59]).toArray⟩ : ByteArray)) := Lib.hid (by
              rw [hZ, show (⟨#[91]⟩ : ByteArray) = ⟨[91].toArray⟩ from rfl, show (⟨#[93, 59]⟩ : ByteArray) = ⟨[93, 59].toArray⟩ from rfl, cat_bytes, cat_bytes])
            have hsZ : Z.size ≤ 20 := by rw [hZ]; show (Lib.itoa x).toArray.size ≤ _; rw [List.size_toArray]; exact itoa_size hin.2.2
            have ta : ¬ 9223372036854775807 < 1 + Z.size := by omega
            have tb : ¬ 9223372036854775807 < 1 + Z.size + 2 := by omega
            have HP1 := Lib.hid (fun w hT => number_any u hin.1 w hT)
            have HP2 := Lib.hid (fun w hT => number_any v hin.2.1 w hT)
            have HP3 := Lib.hid (fun w hT => print_any x hin.2.2.1 hin.2.2.2 w hT)
            rw [← hX] at HP1
            rw [← hY] at HP2
            rw [← hZ] at HP3
            have HSH : Hid (Short 10000000 [Lib.itoa u, [45, 45], Lib.itoa v, [91] ++ Lib.itoa x ++ [93, 59]]) := Lib.hid (by
              have h1 : (Lib.itoa u).length ≤ 20 := itoa_size hin.1
              have h2 : (Lib.itoa v).length ≤ 20 := itoa_size hin.2.1
              have h3 : (Lib.itoa x).length ≤ 20 := itoa_size hin.2.2
              unfold Short
              simp only [Lib.lens, List.map_cons, List.map_nil, List.sum_cons, List.sum_nil, List.length_cons, List.length_nil, List.length_append]
              omega)
            have i1 : (k : Int) < (M.length : Int) := by omega
            clear hX hY hZ he hin
            subst hae
            have hbA : Below wr.heap.size wr (wr.alloc (.cells #[.int .i64 u, .int .i64 v, .int .i64 x] 51)) := (Below.refl _ _).alloc (Nat.le_refl _) _
            have HE0 : Hid (EvSt w (dotH N M N ++ dotsP (M.take k)) wr.heap.size u v x (wr.alloc (.cells #[.int .i64 u, .int .i64 v, .int .i64 x] 51))) := Lib.hid ⟨HF.out.1.keep hbA, VarE.new _ _ _ _, fun e => by have := HF.out.1.2.lt; omega⟩
            have HO0 := Lib.hid (HF.out.2.keep hbA)
            clear hbA
            go_upto_region 14 with fail
            generalize wr.alloc (.cells #[.int .i64 u, .int .i64 v, .int .i64 x] 51) = V0 at *
            generalize wr.heap.size = B at *
            have HE1 := Lib.hid (HE0.out.keep ((Below.refl _ _).drew))
            have HO1 := Lib.hid (HO0.out.keep ((Below.refl _ _).drew))
            clear HE0 HO0 c0 c1 c2 HF
            refine wp_region_held_drew (S := fun W' => W'.cell? ⟨B, 0, none⟩ = some (.int .i64 u) ∧ W'.cell? ⟨B, 1, none⟩ = some (.int .i64 v) ∧ W'.cell? ⟨B, 2, none⟩ = some (.int .i64 x)) (by kernel_rfl) HE1.out.2.1.cells (fun hHeld => ?_)
            refine wpAnyH_take (i := 0) (v := ?vt0) rfl (by kernel_rfl) (by kernel_rfl) (by kernel_rfl) (fun _ _ _ h => h) (Or.inl ⟨by kernel_rfl, fun w' hSw => ?hyt0⟩) (by assumption) ?restt0
            case hyt0 => ((try dsimp only at hSw); go_simp; (try with_reducible rfl))
            simp only [Act.put]
            refine wpAnyH_take (i := 1) (v := ?vt1) rfl (by kernel_rfl) (by kernel_rfl) (by kernel_rfl) (fun _ _ _ h => h) (Or.inl ⟨by kernel_rfl, fun w' hSw => ?hyt1⟩) (by assumption) ?restt1
            case hyt1 => ((try dsimp only at hSw); go_simp; (try with_reducible rfl))
            simp only [Act.put]
            refine wpAnyH_take (i := 2) (v := ?vt2) rfl (by kernel_rfl) (by kernel_rfl) (by kernel_rfl) (fun _ _ _ h => h) (Or.inl ⟨by kernel_rfl, fun w' hSw => ?hyt2⟩) (by assumption) ?restt2
            case hyt2 => ((try dsimp only at hSw); go_simp; (try with_reducible rfl))
            simp only [Act.put]
            refine wpAnyH_take (i := 4) (v := ?vt4) rfl (by kernel_rfl) (by kernel_rfl) (by kernel_rfl) (fun _ _ _ h => h) (Or.inl ⟨by kernel_rfl, fun w' hSw => ?hyt4⟩) (by assumption) ?restt4
            case hyt4 => ((try dsimp only at hSw); go_simp; (try with_reducible rfl))
            simp only [Act.put]
            refine wpAnyH_take (i := 5) (v := ?vt5) rfl (by kernel_rfl) (by kernel_rfl) (by kernel_rfl) (fun _ _ _ h => h) (Or.inl ⟨by kernel_rfl, fun w' hSw => ?hyt5⟩) (by assumption) ?restt5
            case hyt5 => ((try dsimp only at hSw); go_simp; (try with_reducible rfl))
            simp only [Act.put]
            refine wpAnyH_take (i := 7) (v := ?vt7) rfl (by kernel_rfl) (by kernel_rfl) (by kernel_rfl) (fun _ _ _ h => h) (Or.inl ⟨by kernel_rfl, fun w' hSw => ?hyt7⟩) (by assumption) ?restt7
            case hyt7 => ((try dsimp only at hSw); go_simp; (try with_reducible rfl))
            simp only [Act.put]
            refine wpAnyH_take (i := 8) (v := ?vt8) rfl (by kernel_rfl) (by kernel_rfl) (by kernel_rfl) (fun _ _ _ h => h) (Or.inl ⟨by kernel_rfl, fun w' hSw => ?hyt8⟩) (by assumption) ?restt8
            case hyt8 => ((try dsimp only at hSw); go_simp; (try with_reducible rfl))
            simp only [Act.put]
            refine wpAnyH_ready (rs := [3]) (by kernel_rfl) (by simp) ?_
            refine AllReadyH.cons rfl (fun K hK => ?_) AllReadyH.nil
            go_simp
            refine (HP1.out _ (HT.out.on HE1.out.1.1)).mono ?_
            rintro e y1 ⟨rfl, hb1⟩
            have HE2 := Lib.hid (HE1.out.keep hb1)
            have HO2 := Lib.hid (HO1.out.keep hb1)
            clear hb1 HE1 HO1
            go_wp2_with fail
            refine hK.out _ _ ?hSt3 (fun hHeld => ?restt3)
            case hSt3 => exact HE2.out.2.1.cells
            clear hK K
            refine wpAnyH_ready (rs := [6]) (by kernel_rfl) (by simp) ?_
            refine AllReadyH.cons rfl (fun K hK => ?_) AllReadyH.nil
            go_simp
            refine (HP2.out _ (HT.out.on HE2.out.1.1)).mono ?_
            rintro e y2 ⟨rfl, hb2⟩
            have HE3 := Lib.hid (HE2.out.keep hb2)
            have HO3 := Lib.hid (HO2.out.keep hb2)
            clear hb2 HE2 HO2
            go_wp2_with fail
            refine hK.out _ _ ?hSt6 (fun hHeld => ?restt6)
            case hSt6 => exact HE3.out.2.1.cells
            clear hK K
            refine wpAnyH_ready (rs := [9]) (by kernel_rfl) (by simp) ?_
            refine AllReadyH.cons rfl (fun K hK => ?_) AllReadyH.nil
            go_simp
            refine (HP3.out _ (HT.out.on HE3.out.1.1)).mono ?_
            rintro e y3 ⟨rfl, hb3⟩
            have HE4 := Lib.hid (HE3.out.keep hb3)
            have HO4 := Lib.hid (HO3.out.keep hb3)
            clear hb3 HE3 HO3
            go_wp2_with fail
            refine hK.out _ _ ?hSt9 (fun hHeld => ?restt9)
            case hSt9 => exact HE4.out.2.1.cells
            clear hK K
            refine wpAnyH_take (i := 10) (v := ?vt10) rfl (by kernel_rfl) (by kernel_rfl) (by kernel_rfl) (fun _ _ _ h => h) (Or.inl ⟨by kernel_rfl, fun w' hSw => ?hyt10⟩) (by assumption) ?restt10
            case hyt10 => ((try dsimp only at hSw); go_simp; (try with_reducible rfl))
            simp only [Act.put]
            refine wpAnyH_take (i := 11) (v := ?vt11) rfl (by kernel_rfl) (by kernel_rfl) (by kernel_rfl) (fun _ _ _ h => h) (Or.inl ⟨by kernel_rfl, fun w' hSw => ?hyt11⟩) (by assumption) ?restt11
            case hyt11 => ((try dsimp only at hSw); go_simp; (try with_reducible rfl))
            simp only [Act.put]
            refine wpAnyH_ready (rs := [12]) (by kernel_rfl) (by simp) ?_
            refine AllReadyH.cons rfl (fun K hK => ?_) AllReadyH.nil
            go_simp
            have HEA := Lib.hid (HE4.out.keep ((Below.refl y3.heap.size y3).alloc (Nat.le_refl _) (.cells #[.string X, .string ⟨#[45, 45]⟩, .string Y, .string (⟨#[91]⟩ ++ Z ++ ⟨#[93, 59]⟩)] 9)))
            have HOA := Lib.hid (HO4.out.keep ((Below.refl y3.heap.size y3).alloc (Nat.le_refl _) (.cells #[.string X, .string ⟨#[45, 45]⟩, .string Y, .string (⟨#[91]⟩ ++ Z ++ ⟨#[93, 59]⟩)] 9)))
            go_wp2_with fail
            refine hK.out _ _ ?hSt12 (fun hHeld => ?restt12)
            case hSt12 => exact HEA.out.2.1.cells
            clear hK K
            refine wpAnyH_ready (rs := [13]) (by kernel_rfl) (by simp) ?_
            refine AllReadyH.cons rfl (fun K hK => ?_) AllReadyH.nil
            go_simp
            refine (putLine_any HE4.out.1 ((Below.refl _ _).alloc (Nat.le_refl _) _) _ [Lib.itoa u, [45, 45], Lib.itoa v, [91] ++ Lib.itoa x ++ [93, 59]] _ rfl (txt_four HX.out rfl HY.out HU.out y3 _) HSH.out (by have := HZ.out; omega)).mono ?_
            rintro e y5 ⟨rfl, hs5, hb5⟩
            have HE5 := hs5
            have HQ5 := Lib.hid (HEA.out.2.1.kept hb5 HEA.out.2.2)
            have HO5 := Lib.hid (HOA.out.kept HEA.out.1.2 hb5)
            go_wp2_with fail
            refine hK.out _ _ ?hSt13 (fun hHeld => ?restt13)
            case hSt13 => exact HQ5.out.cells
            clear hK K
            refine wpAnyH_done (by kernel_rfl) ?_ _
            have HF9 : Hid (TxSt w (dotH N M N ++ dotsP (M.take (k + 1))) y5 ∧ EdOwn M (.slice (some ⟨b, off, none⟩) M.length c) y5) := Lib.hid ⟨by rw [HL.out, ← List.append_assoc]; exact HE5, HO5.out⟩
            clear HL HZ
            go_wp2
            go_roundw
            case rel => exact ⟨k + 1, by go_num, hlt, HF9⟩
            case measure => simp [intOf]; omega
          · have hke : k = M.length := by omega
            have i1 : ¬ (k : Int) < (M.length : Int) := by omega
            have HE : Hid (TxSt w (dotH N M N ++ dotsP M) wr) := Lib.hid (by have h := HF.out.1; rw [hke, List.take_length] at h; exact h)
            have HZZ : Hid ((dotH N M N ++ dotsP M).length ≤ 10000000000) := Lib.hid (by have h := HZ2.out k; rw [hke, List.take_length] at h; exact h)
            clear HF hke
            go_wp2_with fail
            refine (putLine_any HE.out ((Below.refl _ _).alloc (Nat.le_refl _) _) _ [[125]] _ rfl (txt_one rfl wr _) (by unfold Short; decide) (by have := HZZ.out; omega)).mono ?_
            rintro e w8 ⟨rfl, hs8, -⟩
            have HF8 : Hid (TxSt w (dotP N M) w8) := Lib.hid hs8
            clear hs8
            go_wp2_with fail
            refine (told_text HF8.out).mono ?_
            rintro e w9 ⟨rfl, hb9⟩
            have HB9 := Lib.hid hb9
            clear hb9
            go_wp2
            go_ret
            exact ⟨rfl, HB9.out⟩
end Go.Proofs.YtdbebebhldldmaaGreatDoor.Gp
