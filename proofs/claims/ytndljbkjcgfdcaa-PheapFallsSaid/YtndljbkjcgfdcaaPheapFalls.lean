/- What is popped one behind the other falls by its keys, and rises where these are alike; each vertex comes once, with its key as it is now; behind all of them there is nothing. Conditions: none: every slice of keys, every slice of raises (of more than a hundred the law asks only that the program has heaps at all). -/
import Derived.Test.YtndljbkjcgfdcaaFallsMem
import Derived.Test.YtndljbkjcgfdcaaChecked
import Derived.Test.YtndljbkjcgfdcaaRows
import Derived.Below
import Derived.Deep.RegionHeld3
namespace Go.Proofs.Ytndljbkjcgfdcaa.pheapFalls
open Go.ChangeShapes Go.WideShapes Go.ChangeAt Go.RowKit NdPure HpPure HeapPure
theorem info_i64 : (Try.prog.info? 2).map (fun i => (i.zero, i.size, i.bytes)) = some (some (.int .i64 0), 1, 8) := by kernel_rfl
set_option maxRecDepth 100000 in
set_option maxHeartbeats 8000000 in
theorem walk_list (a : Option Addr) (cap : Nat) (l : List Int) (b : Option Addr) (cap2 : Nat) (r : List Int) (w : World) (hl : ReadsC w cap a l) (hm : l.length ≤ maxLen) (hr : ReadsC w cap2 b r) (hm2 : r.length ≤ maxLen) :
    Calls Try.prog 4 #[.slice a l.length cap, .slice b r.length cap2] w fun e w' => e = .returned (.bool true) ∧ Below w.heap.size w w' := by
  have HL := Lib.hid hl
  have HRd := Lib.hid hr
  have hm : l.length ≤ 9223372036854775807 := by unfold maxLen at hm; omega
  have hm2 : r.length ≤ 9223372036854775807 := by unfold maxLen at hm2; omega
  clear hl hr
  by_cases h100 : 100 < l.length
  · have t1 : (l.length : Int) > 100 := by omega
    clear h100
    go_enter Try.func4, Try.ntmps4
    go_wp2_with (first | (go_at_call 6; refine (awake_any _).mono ?_; rintro e w1 ⟨rfl, hb1⟩; have HB := Lib.hid hb1; clear hb1))
    go_ret
    exact ⟨rfl, HB.out⟩
  have t1 : ¬ (l.length : Int) > 100 := by omega
  by_cases h101 : 100 < r.length
  · have t2 : (r.length : Int) > 100 := by omega
    clear h100 h101
    go_enter Try.func4, Try.ntmps4
    go_wp2_with (first | (go_at_call 6; refine (awake_any _).mono ?_; rintro e w1 ⟨rfl, hb1⟩; have HB := Lib.hid hb1; clear hb1))
    go_ret
    exact ⟨rfl, HB.out⟩
  have t2 : ¬ (r.length : Int) > 100 := by omega
  have hl1 : l.length ≤ 100 := by omega
  have hr1 : r.length ≤ 100 := by omega
  clear h100 h101 hm hm2
  obtain ⟨i, hi1, hi2, hi3, hi4⟩ := info_parts info_i64
  go_enter Try.func4, Try.ntmps4
  go_wp2_with fail
  refine (newH_run (l.length : Int) w).mono ?_
  rintro e w1 ⟨B, rfl, h1⟩
  rw [roomH_of _ (by omega), ← upTo_zero] at h1
  have HQ := Lib.hid (HpQ.start h1)
  clear h1
  go_upto_region 4 with fail
  go_cut [6] from 30 to 32 (fun v wx => ∃ q c, v = .slice q l.length c ∧ Hid (FallAt w B l (.slice q l.length c) (upTo l 0) 0 wx))
  case first =>
    cases a with
    | none =>
      have hc0 : cap = 0 := HL.out.2 rfl
      have hl0 : l = [] := by
        rcases HL.out.1 with e | ⟨bl, off, e, -⟩
        · exact e
        · cases e
      subst hc0
      subst hl0
      have HF := Lib.hid (fall_none HQ.out)
      have hown := World.ownsRow_lit (base := w.heap.size) (e := 2) (size := 1) w1 #[] 0 HQ.out.1.size (Nat.zero_le _) rfl
      go_wp2_with (first
        | (at_builtin; refine wpList_append_own_none rfl _ _ 30 rfl w.heap.size 2 i 1 Try.underlying30 hi1 (.slice (some ⟨w1.heap.size, 0, none⟩) 0 0) 0 [] rfl hown rfl ?_))
      go_meet
      case rel => exact ⟨_, _, rfl, HF⟩
    | some ad =>
      have hown := World.ownsRow_lit (base := w.heap.size) (e := 2) (size := 1) w1 #[] 0 HQ.out.1.size (Nat.zero_le _) rfl
      have HNews : Hid (∀ j u, (l.map encZ)[j]? = some u → (w1.alloc (.cells #[] 2)).cell? (ad.add j) = some u) := Lib.hid fun j u hj => by
        rcases HL.out.1 with e | ⟨bl, off, e, hb, hc⟩
        · subst e; simp at hj
        · cases e
          obtain ⟨hjl, rfl⟩ := List.getElem?_eq_some_iff.1 hj
          have hj2 : j < l.length := by simpa using hjl
          rw [List.getElem_map, addr_add]
          exact ((HQ.out.1.alloc HQ.out.1.size (.cells #[] 2)).cell (p := ⟨bl, off + j, none⟩) hb).trans (hc j hj2)
      have hbs := HQ.out.1.size
      go_wp2_with (first
        | (at_builtin; refine wpList_append_own_at _ rfl _ _ 30 rfl w.heap.size 2 i (.int .i64 0) 1 8 Try.underlying30 hi1 hi2 hi3 hi4 rfl (by decide) (.slice (some ⟨w1.heap.size, 0, none⟩) 0 0) 0 [] rfl hown ad l.length cap (l.map encZ) rfl (by simp) HNews.out (by intro u hu; obtain ⟨m, -, rfl⟩ := List.mem_map.1 hu; rfl) (by unfold maxLen; omega) (by omega) (by simp; omega) ?_; intro v' w6 hown6 hg6 _ hat6; have HF := Lib.hid (fall_some HQ.out rfl hown6 hg6 hat6); obtain ⟨q6, c6, e6⟩ := HF.out.slice; subst e6; clear hown6 hg6 hat6))
      go_meet
      case rel => exact ⟨_, _, rfl, HF⟩
  case rest =>
    obtain ⟨q, c, rfl, HF⟩ := hcut
    clear HQ hi1 hi2 hi3 hi4
    go_wp2
    go_loopw [7] (fun i wr => ∃ (k : Nat) (lk : Int), i = .int .i64 k ∧ k ≤ l.length ∧ (0 ≤ lk ∧ lk ≤ 8194 * (k : Int)) ∧ Hid (FallAt w B l (.slice q l.length c) (upTo l k) lk wr)) (fun i _ => l.length - (intOf i).toNat)
    case atStart => exact ⟨0, 0, rfl, Nat.zero_le _, ⟨Int.le_refl _, by omega⟩, HF⟩
    case round =>
      obtain ⟨k, lk, rfl, hk, ⟨hk0, hk1⟩, HK⟩ := hrel
      clear HF
      have i0 : (0 : Int) ≤ (k : Int) := by omega
      by_cases hlt : k < l.length
      · have i1 : (k : Int) < (l.length : Int) := by omega
        obtain ⟨bl, off, rfl, hbN, d0⟩ := HL.out.1.at hlt
        unfold encZ at d0
        have HD : Hid (∀ W, Below w.heap.size w W → W.cell? ⟨bl, off + k, none⟩ = some (.int .i64 l[k]) ∧ bl < W.heap.size) := Lib.hid fun W hW => ⟨(hW.cell (p := ⟨bl, off + k, none⟩) hbN).trans d0, Nat.lt_of_lt_of_le hbN hW.size⟩
        have HP := Lib.hid (push_upTo hlt)
        clear hbN d0
        obtain ⟨d1, d2⟩ := HD.out _ HK.out.below
        generalize l[k] = x at *
        go_wp2_with fail
        refine (HK.out.call (fun O hi => push_run wr (k : Int) x hi (by omega))).mono ?_
        rintro e w2 ⟨rfl, lk2, hk2, hk3, h2⟩
        rw [HP.out.1]
        rw [HP.out.2.1] at h2
        have HK2 := Lib.hid h2
        clear h2 HK d1 d2 wr
        obtain ⟨d1, d2⟩ := HD.out _ HK2.out.below
        go_wp2_with fail
        refine (HK2.out.call (fun O hi => push_run w2 (k : Int) x hi (by omega))).mono ?_
        rintro e w3 ⟨rfl, lk3, hk4, hk5, h3⟩
        rw [HP.out.2.2.1]
        rw [HP.out.2.2.2] at h3
        have HK3 := Lib.hid h3
        clear h3 HK2 d1 d2 HD HP
        go_wp2
        go_roundw
        case rel => exact ⟨k + 1, lk3, by go_num, by omega, ⟨by omega, by omega⟩, HK3⟩
        case measure => (simp [intOf] <;> omega)
      · have hge : ¬ (k : Int) < (l.length : Int) := by omega
        have hke : k = l.length := by omega
        rw [hke, upTo_full] at HK
        have hlk : lk ≤ 819400 := by omega
        clear hk1 hke hlt
        go_wp2
        go_loopw [8] (fun i wz => ∃ (j : Nat) (lk : Int) (N : List Int), i = .int .i64 j ∧ j ≤ l.length ∧ N.length = l.length ∧ (0 ≤ lk ∧ lk ≤ 819400 + 4097 * (j : Int)) ∧ Hid (FallAt w B N (.slice q l.length c) (N.map some) lk wz)) (fun i _ => l.length - (intOf i).toNat)
        case atStart => exact ⟨0, lk, l, rfl, Nat.zero_le _, rfl, ⟨hk0, by omega⟩, HK⟩
        case round =>
          obtain ⟨j, lk, N, rfl, hj, hN, ⟨hj0, hj1⟩, HK⟩ := hrel
          have j0 : (0 : Int) ≤ (j : Int) := by omega
          by_cases hlt : j < l.length
          · have j1 : (j : Int) < (l.length : Int) := by omega
            by_cases hlr : j < r.length
            · have j2 : (j : Int) < (r.length : Int) := by omega
              have hjN : j < N.length := by omega
              obtain ⟨bl, off, rfl, hbN, d0⟩ := HRd.out.1.at hlr
              unfold encZ at d0
              have HD : Hid (∀ W, Below w.heap.size w W → W.cell? ⟨bl, off + j, none⟩ = some (.int .i64 r[j]) ∧ bl < W.heap.size) := Lib.hid fun W hW => ⟨(hW.cell (p := ⟨bl, off + j, none⟩) hbN).trans d0, Nat.lt_of_lt_of_le hbN hW.size⟩
              obtain ⟨g, c', e, -, -, -⟩ := HK.out.get hjN
              obtain ⟨rfl, -, -⟩ := Value.slice.inj e
              have HC : Hid (∀ (A : List (Option Int)) (lk : Int) (W : World) (_ : FallAt w B N (.slice (some ⟨g, 0, none⟩) l.length c) A lk W), g < W.heap.size ∧ W.cell? ⟨g, j, none⟩ = some (.int .i64 N[j]) ∧ W.frozen? ⟨g, j, none⟩ = false) := Lib.hid fun A lk W h => h.at rfl hjN
              have HM := Lib.hid (raise_map hjN r[j])
              have HNl := Lib.hid hN
              clear hbN d0 e
              generalize N[j] = x at *
              generalize r[j] = y at *
              clear hN hjN hlr
              rcases Int.lt_trichotomy x y with hx | hx | hx
              · have t3 : x ≤ y := by omega
                have t4 : ¬ y < x := by omega
                have t5 : ¬ y ≤ x := by omega
                have HB : Hid (raiseB (N.map some) (j : Int) y = true) := Lib.hid (by rw [HM.out.1]; first | exact decide_eq_true (by omega) | exact decide_eq_false (by omega))
                have HA : Hid (raiseA (N.map some) (j : Int) y = (N.set j y).map some) := Lib.hid (by rw [HM.out.2]; first | rw [Int.max_eq_right (by omega)] | rw [Int.max_eq_left (by omega)])
                clear HM
                go_wp2_with fail
                have y1 : wr.drew.cell? ⟨bl, off + j, none⟩ = some (.int .i64 y) := (HD.out _ (HK.out.drawn 1).below).1
                have y2 : wr.drew.cell? ⟨g, j, none⟩ = some (.int .i64 x) := (HC.out _ _ _ (HK.out.drawn 1)).2.1
                go_region_held3 (fun W => W.cell? ⟨bl, off + j, none⟩ = some (.int .i64 y) ∧ W.cell? ⟨g, j, none⟩ = some (.int .i64 x))
                  (first
                    | exact ⟨y1, y2⟩
                    | exact ⟨z1, z2⟩
                    | go_keep)
                  (first
                    | (go_at_call 17; refine ((HK.out.drawn 1).call (fun O hi => raise_run _ (j : Int) y hi (by omega))).mono ?_; rintro e w3 ⟨rfl, lk3, hk4, hk5, h3⟩; rw [HB.out]; rw [HA.out] at h3; have H3 := Lib.hid h3; have z1 := (HD.out _ h3.below).1; have z2 := (HC.out _ _ _ h3).2.1; clear h3))
                clear HK y1 y2
                go_wp2_with fail
                refine wp_region_still_tail 12 (by kernel_rfl) (by kernel_rfl) ?_
                change wpStill _ _ (w3.drewN 1) _ _ _
                change wpStill _ _ _ (fun a' => wpList _ _ _ _ _ (w3.drewN 1)) _ _
                have H4 := Lib.hid (H3.out.drawn 1)
                clear z1 z2 H3
                generalize w3.drewN 1 = w4 at *
                obtain ⟨z1, z3⟩ := HD.out _ H4.out.below
                obtain ⟨z4, z2, z5⟩ := HC.out _ _ _ H4.out
                have HF : Hid (FallAt w B (N.set j y) (.slice (some ⟨g, 0, none⟩) l.length c) ((N.set j y).map some) lk3 (w4.setCell ⟨g, j, none⟩ (.int .i64 y))) := Lib.hid (H4.out.set rfl HNl.out.symm y)
                clear H4 HC HD HB HA
                simp only [List.take_succ_cons, List.take_zero, List.drop_succ_cons, List.drop_zero]
                repeat still_step
                refine wpStill_nil ?_
                go_wp2
                go_roundw
                case rel => exact ⟨j + 1, lk3, N.set j y, by go_num, by omega, by rw [List.length_set]; exact HNl.out, ⟨by omega, by omega⟩, HF⟩
                case measure => (simp [intOf] <;> omega)
              · subst hx
                have HB : Hid (raiseB (N.map some) (j : Int) x = true) := Lib.hid (by rw [HM.out.1]; first | exact decide_eq_true (by omega) | exact decide_eq_false (by omega))
                have HA : Hid (raiseA (N.map some) (j : Int) x = (N.set j x).map some) := Lib.hid (by rw [HM.out.2]; first | rw [Int.max_eq_right (by omega)] | rw [Int.max_eq_left (by omega)])
                clear HM
                go_wp2_with fail
                have y1 : wr.drew.cell? ⟨bl, off + j, none⟩ = some (.int .i64 x) := (HD.out _ (HK.out.drawn 1).below).1
                have y2 : wr.drew.cell? ⟨g, j, none⟩ = some (.int .i64 x) := (HC.out _ _ _ (HK.out.drawn 1)).2.1
                go_region_held3 (fun W => W.cell? ⟨bl, off + j, none⟩ = some (.int .i64 x) ∧ W.cell? ⟨g, j, none⟩ = some (.int .i64 x))
                  (first
                    | exact ⟨y1, y2⟩
                    | exact ⟨z1, z2⟩
                    | go_keep)
                  (first
                    | (go_at_call 17; refine ((HK.out.drawn 1).call (fun O hi => raise_run _ (j : Int) x hi (by omega))).mono ?_; rintro e w3 ⟨rfl, lk3, hk4, hk5, h3⟩; rw [HB.out]; rw [HA.out] at h3; have H3 := Lib.hid h3; have z1 := (HD.out _ h3.below).1; have z2 := (HC.out _ _ _ h3).2.1; clear h3))
                clear HK y1 y2
                go_wp2_with fail
                refine wp_region_still_tail 12 (by kernel_rfl) (by kernel_rfl) ?_
                change wpStill _ _ (w3.drewN 1) _ _ _
                change wpStill _ _ _ (fun a' => wpList _ _ _ _ _ (w3.drewN 1)) _ _
                have H4 := Lib.hid (H3.out.drawn 1)
                clear z1 z2 H3
                generalize w3.drewN 1 = w4 at *
                obtain ⟨z1, z3⟩ := HD.out _ H4.out.below
                obtain ⟨z4, z2, z5⟩ := HC.out _ _ _ H4.out
                have HF : Hid (FallAt w B (N.set j x) (.slice (some ⟨g, 0, none⟩) l.length c) ((N.set j x).map some) lk3 (w4.setCell ⟨g, j, none⟩ (.int .i64 x))) := Lib.hid (H4.out.set rfl HNl.out.symm x)
                clear H4 HC HD HB HA
                simp only [List.take_succ_cons, List.take_zero, List.drop_succ_cons, List.drop_zero]
                repeat still_step
                refine wpStill_nil ?_
                go_wp2
                go_roundw
                case rel => exact ⟨j + 1, lk3, N.set j x, by go_num, by omega, by rw [List.length_set]; exact HNl.out, ⟨by omega, by omega⟩, HF⟩
                case measure => (simp [intOf] <;> omega)
              · have t3 : ¬ x ≤ y := by omega
                have t4 : ¬ x < y := by omega
                have t5 : y ≤ x := by omega
                have HB : Hid (raiseB (N.map some) (j : Int) y = false) := Lib.hid (by rw [HM.out.1]; first | exact decide_eq_true (by omega) | exact decide_eq_false (by omega))
                have HA : Hid (raiseA (N.map some) (j : Int) y = (N.set j x).map some) := Lib.hid (by rw [HM.out.2]; first | rw [Int.max_eq_right (by omega)] | rw [Int.max_eq_left (by omega)])
                clear HM
                go_wp2_with fail
                have y1 : wr.drew.cell? ⟨bl, off + j, none⟩ = some (.int .i64 y) := (HD.out _ (HK.out.drawn 1).below).1
                have y2 : wr.drew.cell? ⟨g, j, none⟩ = some (.int .i64 x) := (HC.out _ _ _ (HK.out.drawn 1)).2.1
                go_region_held3 (fun W => W.cell? ⟨bl, off + j, none⟩ = some (.int .i64 y) ∧ W.cell? ⟨g, j, none⟩ = some (.int .i64 x))
                  (first
                    | exact ⟨y1, y2⟩
                    | exact ⟨z1, z2⟩
                    | go_keep)
                  (first
                    | (go_at_call 17; refine ((HK.out.drawn 1).call (fun O hi => raise_run _ (j : Int) y hi (by omega))).mono ?_; rintro e w3 ⟨rfl, lk3, hk4, hk5, h3⟩; rw [HB.out]; rw [HA.out] at h3; have H3 := Lib.hid h3; have z1 := (HD.out _ h3.below).1; have z2 := (HC.out _ _ _ h3).2.1; clear h3))
                clear HK y1 y2
                go_wp2_with fail
                refine wp_region_still_tail 12 (by kernel_rfl) (by kernel_rfl) ?_
                change wpStill _ _ (w3.drewN 1) _ _ _
                change wpStill _ _ _ (fun a' => wpList _ _ _ _ _ (w3.drewN 1)) _ _
                have H4 := Lib.hid (H3.out.drawn 1)
                clear z1 z2 H3
                generalize w3.drewN 1 = w4 at *
                obtain ⟨z1, z3⟩ := HD.out _ H4.out.below
                obtain ⟨z4, z2, z5⟩ := HC.out _ _ _ H4.out
                have HF : Hid (FallAt w B (N.set j x) (.slice (some ⟨g, 0, none⟩) l.length c) ((N.set j x).map some) lk3 (w4.setCell ⟨g, j, none⟩ (.int .i64 x))) := Lib.hid (H4.out.set rfl HNl.out.symm x)
                clear H4 HC HD HB HA
                simp only [List.take_succ_cons, List.take_zero, List.drop_succ_cons, List.drop_zero]
                repeat still_step
                refine wpStill_nil ?_
                go_wp2
                go_roundw
                case rel => exact ⟨j + 1, lk3, N.set j x, by go_num, by omega, by rw [List.length_set]; exact HNl.out, ⟨by omega, by omega⟩, HF⟩
                case measure => (simp [intOf] <;> omega)
            · have hge : ¬ (j : Int) < (r.length : Int) := by omega
              have HE : Hid (Falls N (N.map some) 0 (-1) l.length) := Lib.hid (by rw [← hN]; exact falls_start N)
              clear HL HRd
              go_wp2
              go_loopw [9, 10, 11] (fun s9 s10 s11 wy => ∃ (m : Nat) (lk last at' : Int) (A : List (Option Int)), s9 = .int .i64 last ∧ s10 = .int .i64 at' ∧ s11 = .int .i64 m ∧ (0 ≤ lk ∧ lk + 4097 * (m : Int) ≤ 2000000) ∧ Hid (FallAt w B N (.slice q l.length c) A lk wy ∧ Falls N A last at' m)) (fun _ _ s11 _ => (intOf s11).toNat)
              case atStart => exact ⟨l.length, lk, 0, -1, N.map some, rfl, rfl, rfl, ⟨hj0, by omega⟩, Lib.hid ⟨HK.out, HE.out⟩⟩
              case round =>
                clear HE HK hj0 hj1
                obtain ⟨m, lk, last, at', A, rfl, rfl, rfl, ⟨hj0, hj1⟩, HK⟩ := hrel
                cases m with
                | succ m =>
                  have t3 : ((m + 1 : Nat) : Int) > 0 := by omega
                  obtain ⟨u, y, e1, e2, e3, e4, hu, hy, hlow, hnext⟩ := HK.out.2.next
                  have E1 := Lib.hid e1
                  have E2 := Lib.hid e2
                  have E3 := Lib.hid e3
                  have HN := Lib.hid hnext
                  go_wp2_with fail
                  refine (HK.out.1.call (fun O hi => pop_run _ hi (by omega))).mono ?_
                  rintro e w3 ⟨rfl, lk3, hk4, hk5, h3⟩
                  rw [E1.out, E2.out, E3.out]
                  rw [e4] at h3
                  obtain ⟨g, c', e, hg, n0, -⟩ := h3.get hu
                  obtain ⟨rfl, -, -⟩ := Value.slice.inj e
                  have hNy : N[u] = y := by rw [List.getElem?_eq_getElem hu] at hy; exact Option.some.inj hy
                  rw [hNy] at n0
                  have H3 := Lib.hid h3
                  have u0 : (0 : Int) ≤ (u : Int) := by omega
                  have u1 : ¬ (u : Int) < 0 := by omega
                  have u2 : (u : Int) < (l.length : Int) := by omega
                  have u3 : ¬ (u : Int) ≥ (l.length : Int) := by omega
                  have u4 : (y != y) = false := bne_self_eq_false _
                  clear h3 HK e1 e2 e3 e4 hnext hy hNy e E1 E2 E3 hu hN
                  by_cases h0 : 0 ≤ at'
                  · obtain ⟨hl1, hl2⟩ := hlow h0
                    have v0 : at' ≥ 0 := h0
                    have v1 : ¬ last < y := by omega
                    by_cases hyl : y = last
                    · have v3 : ¬ (u : Int) < at' := by have := hl2 hyl; omega
                      subst hyl
                      have v2 : (y == y) = true := beq_self_eq_true _
                      clear hlow hl1 hl2 h0
                      go_wp2
                      go_roundw
                      case rel => exact ⟨m, lk3, y, u, A.set u none, rfl, rfl, by go_num, ⟨by omega, by omega⟩, Lib.hid ⟨H3.out, HN.out⟩⟩
                      case measure => (simp [intOf] <;> omega)
                    · have v2 : (y == last) = false := by simpa using hyl
                      clear hlow hl1 hl2 h0 hyl
                      go_wp2
                      go_roundw
                      case rel => exact ⟨m, lk3, y, u, A.set u none, rfl, rfl, by go_num, ⟨by omega, by omega⟩, Lib.hid ⟨H3.out, HN.out⟩⟩
                      case measure => (simp [intOf] <;> omega)
                  · have v0 : ¬ at' ≥ 0 := h0
                    clear hlow h0
                    go_wp2
                    go_roundw
                    case rel => exact ⟨m, lk3, y, u, A.set u none, rfl, rfl, by go_num, ⟨by omega, by omega⟩, Lib.hid ⟨H3.out, HN.out⟩⟩
                    case measure => (simp [intOf] <;> omega)
                | zero =>
                  obtain ⟨e1, e2, e3, e4, e5⟩ := HK.out.2.end
                  have E1 := Lib.hid e1
                  have E2 := Lib.hid e2
                  have E3 := Lib.hid e3
                  have E5 := Lib.hid e5
                  go_wp2_with fail
                  refine (HK.out.1.call (fun O hi => pop_run _ hi (by omega))).mono ?_
                  rintro e w3 ⟨rfl, lk3, hk4, hk5, h3⟩
                  rw [E1.out, E2.out, E3.out]
                  rw [e4] at h3
                  have H3 := Lib.hid h3
                  clear h3 HK e1 e2 e3 e4 e5 E1 E2 E3 hN
                  obtain ⟨O, hi⟩ := H3.out.1.is
                  have HI := Lib.hid hi
                  clear hi
                  go_wp2_with (first
                    | (go_at_call 11; refine (len_run _ HI.out).mono ?_; rintro e w4 ⟨rfl, rfl⟩; rw [E5.out])
                    | (go_at_call 6; refine (awake_any _).mono ?_; rintro e w4 ⟨rfl, hb4⟩; have HB4 := Lib.hid (H3.out.below.trans (hb4.mono H3.out.below.size)); clear hb4))
                  go_ret
                  exact ⟨rfl, HB4.out⟩
          · have hge : ¬ (j : Int) < (l.length : Int) := by omega
            have HE : Hid (Falls N (N.map some) 0 (-1) l.length) := Lib.hid (by rw [← hN]; exact falls_start N)
            clear HL HRd
            go_wp2
            go_loopw [9, 10, 11] (fun s9 s10 s11 wy => ∃ (m : Nat) (lk last at' : Int) (A : List (Option Int)), s9 = .int .i64 last ∧ s10 = .int .i64 at' ∧ s11 = .int .i64 m ∧ (0 ≤ lk ∧ lk + 4097 * (m : Int) ≤ 2000000) ∧ Hid (FallAt w B N (.slice q l.length c) A lk wy ∧ Falls N A last at' m)) (fun _ _ s11 _ => (intOf s11).toNat)
            case atStart => exact ⟨l.length, lk, 0, -1, N.map some, rfl, rfl, rfl, ⟨hj0, by omega⟩, Lib.hid ⟨HK.out, HE.out⟩⟩
            case round =>
              clear HE HK hj0 hj1
              obtain ⟨m, lk, last, at', A, rfl, rfl, rfl, ⟨hj0, hj1⟩, HK⟩ := hrel
              cases m with
              | succ m =>
                have t3 : ((m + 1 : Nat) : Int) > 0 := by omega
                obtain ⟨u, y, e1, e2, e3, e4, hu, hy, hlow, hnext⟩ := HK.out.2.next
                have E1 := Lib.hid e1
                have E2 := Lib.hid e2
                have E3 := Lib.hid e3
                have HN := Lib.hid hnext
                go_wp2_with fail
                refine (HK.out.1.call (fun O hi => pop_run _ hi (by omega))).mono ?_
                rintro e w3 ⟨rfl, lk3, hk4, hk5, h3⟩
                rw [E1.out, E2.out, E3.out]
                rw [e4] at h3
                obtain ⟨g, c', e, hg, n0, -⟩ := h3.get hu
                obtain ⟨rfl, -, -⟩ := Value.slice.inj e
                have hNy : N[u] = y := by rw [List.getElem?_eq_getElem hu] at hy; exact Option.some.inj hy
                rw [hNy] at n0
                have H3 := Lib.hid h3
                have u0 : (0 : Int) ≤ (u : Int) := by omega
                have u1 : ¬ (u : Int) < 0 := by omega
                have u2 : (u : Int) < (l.length : Int) := by omega
                have u3 : ¬ (u : Int) ≥ (l.length : Int) := by omega
                have u4 : (y != y) = false := bne_self_eq_false _
                clear h3 HK e1 e2 e3 e4 hnext hy hNy e E1 E2 E3 hu hN
                by_cases h0 : 0 ≤ at'
                · obtain ⟨hl1, hl2⟩ := hlow h0
                  have v0 : at' ≥ 0 := h0
                  have v1 : ¬ last < y := by omega
                  by_cases hyl : y = last
                  · have v3 : ¬ (u : Int) < at' := by have := hl2 hyl; omega
                    subst hyl
                    have v2 : (y == y) = true := beq_self_eq_true _
                    clear hlow hl1 hl2 h0
                    go_wp2
                    go_roundw
                    case rel => exact ⟨m, lk3, y, u, A.set u none, rfl, rfl, by go_num, ⟨by omega, by omega⟩, Lib.hid ⟨H3.out, HN.out⟩⟩
                    case measure => (simp [intOf] <;> omega)
                  · have v2 : (y == last) = false := by simpa using hyl
                    clear hlow hl1 hl2 h0 hyl
                    go_wp2
                    go_roundw
                    case rel => exact ⟨m, lk3, y, u, A.set u none, rfl, rfl, by go_num, ⟨by omega, by omega⟩, Lib.hid ⟨H3.out, HN.out⟩⟩
                    case measure => (simp [intOf] <;> omega)
                · have v0 : ¬ at' ≥ 0 := h0
                  clear hlow h0
                  go_wp2
                  go_roundw
                  case rel => exact ⟨m, lk3, y, u, A.set u none, rfl, rfl, by go_num, ⟨by omega, by omega⟩, Lib.hid ⟨H3.out, HN.out⟩⟩
                  case measure => (simp [intOf] <;> omega)
              | zero =>
                obtain ⟨e1, e2, e3, e4, e5⟩ := HK.out.2.end
                have E1 := Lib.hid e1
                have E2 := Lib.hid e2
                have E3 := Lib.hid e3
                have E5 := Lib.hid e5
                go_wp2_with fail
                refine (HK.out.1.call (fun O hi => pop_run _ hi (by omega))).mono ?_
                rintro e w3 ⟨rfl, lk3, hk4, hk5, h3⟩
                rw [E1.out, E2.out, E3.out]
                rw [e4] at h3
                have H3 := Lib.hid h3
                clear h3 HK e1 e2 e3 e4 e5 E1 E2 E3 hN
                obtain ⟨O, hi⟩ := H3.out.1.is
                have HI := Lib.hid hi
                clear hi
                go_wp2_with (first
                  | (go_at_call 11; refine (len_run _ HI.out).mono ?_; rintro e w4 ⟨rfl, rfl⟩; rw [E5.out])
                  | (go_at_call 6; refine (awake_any _).mono ?_; rintro e w4 ⟨rfl, hb4⟩; have HB4 := Lib.hid (H3.out.below.trans (hb4.mono H3.out.below.size)); clear hb4))
                go_ret
                exact ⟨rfl, HB4.out⟩
theorem own : ownKnob Try.prog.godebug = none := by kernel_rfl
theorem laidOut : laidOutB Try.prog = true := by kernel_rfl
set_option maxRecDepth 100000 in
theorem lifted (os : Os) (started : os.Started) (H : Type) (enc : TypeId × Value → H) :
    ReturnsInHanded {} Try.checked os 4 .any (Rows.pheapFallsSpec.pre6 enc Try.prog Try.f4 Rows.pheapFallsRow.domain false) (Rows.pheapFallsSpec.post enc Try.prog Try.f4 false true false false) := by
  refine returnsInHanded_of_change (C := Try.checked) own started (by kernel_rfl) Try.func4
    (ChangeSpec.witness6 (enc := enc) (C := Try.checked) false ⟨#[], #[.slice none 0 0, .slice none 0 0], []⟩ 8 (by kernel_rfl) (by kernel_rfl) (by kernel_rfl) (by kernel_rfl)) ?_
  intro W base args ds gs before hval0 hW hcnd _
  have hval : ∀ (j : Nat) t v, Try.f4.params[j]? = some t → args[j]? = some v → Value.okWide Try.prog W .any base t v := hval0
  have hW' := hW
  obtain ⟨p, q, hA0, hV, rfl, hfz, hnd⟩ := hW
  have hA : DataW.TrodAll enc Try.prog W 0 (fun _ => true) true Try.f4.params.toList args.toList ds p := hA0
  rw [Try.params4] at hA hval
  obtain ⟨v0, vs0, d0, ds0, p0, q0, hargs, rfl, rfl, h0, r0⟩ := trodAll_cons hA
  obtain ⟨v1, vs1, d1, ds1, p1, q1, rfl, rfl, rfl, h1, r1⟩ := trodAll_cons r0
  obtain ⟨rfl, rfl, rfl⟩ := trodAll_nil r1
  obtain rfl : args = #[v0, v1] := by cases args; simp_all
  obtain ⟨rfl, rfl⟩ := trodVars_none hV
  obtain ⟨a0, len0, cap0, rfl⟩ := okWide_slice Try.underlying30 (hval 0 30 v0 rfl rfl)
  have k0 := h0
  have lt0 : ∀ x ∈ p0, x.block < W.heap.size := by obtain ⟨m, hm⟩ := k0; exact DataW.trod_lt m _ _ _ hm
  obtain ⟨l0, hlen0, w0⟩ : ∃ l : List Int, l.length = len0 ∧ ReadsC W cap0 a0 l ∧ l.length ≤ maxLen := by
    obtain ⟨fuel, hf⟩ := h0
    exact open_ints64C hf
  subst hlen0
  obtain ⟨a1, len1, cap1, rfl⟩ := okWide_slice Try.underlying30 (hval 1 30 v1 rfl rfl)
  have k1 := h1
  have lt1 : ∀ x ∈ p1, x.block < W.heap.size := by obtain ⟨m, hm⟩ := k1; exact DataW.trod_lt m _ _ _ hm
  obtain ⟨l1, hlen1, w1⟩ : ∃ l : List Int, l.length = len1 ∧ ReadsC W cap1 a1 l ∧ l.length ≤ maxLen := by
    obtain ⟨fuel, hf⟩ := h1
    exact open_ints64C hf
  subst hlen1
  clear hA0 hval0
  refine (walk_list a0 cap0 l0 a1 cap1 l1 W w0.1 w0.2 w1.1 w1.2).mono fun e W' ⟨he, bel⟩ => ?_
  subst he
  exact ⟨_, rfl, _, _, _, [], _, [], hW', trodAll_mk1 (shut_bool Try.underlying4 _), (trodAll_cons_mk (Below.trod laidOut (by kernel_rfl) (of_decide_eq_true (by kernel_rfl)) k0 bel lt0) (trodAll_cons_mk (Below.trod laidOut (by kernel_rfl) (of_decide_eq_true (by kernel_rfl)) k1 bel lt1) trodAll_mk0)), rfl, bel.frame _, fun h => by cases h⟩
theorem over : Rows.pheapFallsRow.holds Try.pinned (OpenSpec.ofChange Rows.pheapFallsSpec) :=
  OpenClaim.holds_of_wide 4 Try.f4 rfl rfl rfl rfl rfl rfl rfl ⟨rfl, rfl, rfl, rfl, rfl⟩ rfl rfl rfl rfl rfl (by kernel_rfl) Try.func4 (by kernel_rfl)
    (of_decide_eq_true (by kernel_rfl)) (by unfold Func.isWrapper; first | (rw [if_pos (by decide +kernel)]; kernel_rfl) | (rw [if_neg (by decide +kernel)]; exact ⟨rfl, rfl⟩))
    (fun os started H enc _ => lifted os started H enc)
/-- The statement. -/
theorem proved : Rows.PheapFallsSaid := over
#print axioms proved
end Go.Proofs.Ytndljbkjcgfdcaa.pheapFalls
