/- The library's two ways to part a range of keys in two. -/
import Derived.Test.YtbebnhadgbkepaaKeyPartRel
import Derived.BigRegion
import Derived.Deep.CutRange
import Derived.Deep.DeepFit
namespace Go.Proofs.Ytbebnhadgbkepaa
open Go.RowKit ForderPure
open Go.Sort hiding Below
set_option maxHeartbeats 2000000 in
set_option maxRecDepth 100000 in
theorem partEq_any (blk off cap a b v : Nat) (d : Array Nat) (w : World) (hH : Holds encU w blk off d) (hbk : blk < w.heap.size) (hav : a ≤ v) (hvb : v < b) (hb : b ≤ d.size) (hsz : d.size < 4611686018427387904) :
    Calls Try.prog 48 #[.slice (some ⟨blk, off, none⟩) d.size cap, .int .i64 a, .int .i64 b, .int .i64 v] w fun e w' =>
      ∃ m : Nat, e = .returned (.int .i64 m) ∧ a < m ∧ m ≤ b ∧ EqDone w blk off a b d d[v]! m w' := by
  have HH := Lib.hid hH
  obtain ⟨P, hP⟩ : ∃ P, P = d[v]! := ⟨_, rfl⟩
  have HS : Hid (∀ q, PartRel w blk off a b (pLe P) d P (a + 1) (b - 1) (swp d a v) (((w.drewN q).setCell ⟨blk, off + a, none⟩ (.int .u64 (d[v]! : Int))).setCell ⟨blk, off + v, none⟩ (.int .u64 (d[a]! : Int)))) := by
    rw [hP]; exact PartRel.start (RowAt.start hH) hbk hb hav hvb
  obtain ⟨G0, hG0⟩ := named d
  have hcw : ∀ t, t < d.size → w.cell? ⟨blk, off + t, none⟩ = some (.int .u64 (G0 t : Int)) := fun t ht => by
    rw [hG0]; exact (hH t ht).1
  have hfw : ∀ t, t < d.size → w.frozen? ⟨blk, off + t, none⟩ = false := fun t ht => (hH t ht).2
  have HG0 := Lib.hid hG0
  have HP := Lib.hid hP
  clear hH hG0 hP
  go_enter Try.func48, Try.ntmps48
  go_upto_region 1 with fail
  go_cut [] from 11 (fun wx => Hid (PartRel w blk off a b (pLe P) d P (a + 1) (b - 1) (swp d a v) wx))
  case first =>
    by_cases hva : v = a
    · subst hva
      go_region
      all_goals go_wp2_with fail
      go_meet
      case rel =>
        have := HS.out 1
        rw [← HG0.out] at this
        exact this
    · go_region
      all_goals go_wp2_with fail
      go_meet
      case rel =>
        have := HS.out 1
        rw [← HG0.out, ← HG0.out] at this
        exact this
  case rest =>
    have HW0 : Hid (PartRel w blk off a b (pLe P) d P (a + 1) (b - 1) (swp d a v) wc) := hcut
    clear hcut hcw hfw HS
    go_wp2_with fail
    go_loopw [9, 10] (fun vi vj wr => ∃ (i j : Nat) (dk : Array Nat), vi = .int .i64 i ∧ vj = .int .i64 j ∧ a < i ∧ i ≤ j + 1 ∧ j < b ∧ Hid (PartRel w blk off a b (pLe P) d P i j dk wr)) (fun vi vj _ => (intOf vj).toNat + 1 - (intOf vi).toNat)
    case atStart => exact ⟨a + 1, b - 1, swp d a v, by go_num, by congr 1; omega, by omega, by omega, by omega, HW0⟩
    case round =>
      obtain ⟨i, j, dk, rfl, rfl, hi1, hi2, hj1, HM⟩ := hrel
      have HZ : Hid (dk.size = d.size) := HM.out.2.1.1
      obtain ⟨G, hG⟩ := named dk
      have hcw : ∀ W, RowAt w blk off dk W → ∀ t, t < d.size → W.cell? ⟨blk, off + t, none⟩ = some (.int .u64 (G t : Int)) := fun W hW t ht => by
        rw [hG]; exact hW.cell HH.out hbk HZ.out ht
      have HC := Lib.hid hcw
      have HG := Lib.hid hG
      clear hG hcw
      go_wp2_with fail
      go_loopw [9] (fun vi wr => ∃ x1 : Nat, vi = .int .i64 x1 ∧ i ≤ x1 ∧ x1 ≤ j + 1 ∧ Hid (PartRel w blk off a b (pLe P) d P x1 j dk wr)) (fun vi _ => j + 1 - (intOf vi).toNat)
      case atStart => exact ⟨i, rfl, by omega, by omega, HM⟩
      case round =>
        obtain ⟨x1, rfl, hx1, hx2, HX⟩ := hrel
        go_upto_region 3 with fail
        go_cut [43] from 29 to 45 (fun v wx => ∃ B, v = .bool B ∧ Hid (B = (decide (x1 ≤ j) && (!ltB (G a) (G x1))) ∧ RowAt w blk off dk wx))
        case first =>
          by_cases h2 : x1 ≤ j
          · have hcw1 := HC.out wr HX.out.1
            have hless := fun W => key_less (G a) (G x1) W
            cases hq : ltB (G a) (G x1)
            · rw [hq] at hless
              have HL := Lib.hid hless
              have HQ := Lib.hid hq
              clear hless hq
              go_quiet (first | (go_at_call 47; refine Calls.quiet_of_same (HL.out _)))
              go_wp2_with fail
              go_meet
              case rel => exact ⟨_, rfl, by rw [HQ.out]; simp [h2], HX.out.1.drewN _⟩
            · rw [hq] at hless
              have HL := Lib.hid hless
              have HQ := Lib.hid hq
              clear hless hq
              go_quiet (first | (go_at_call 47; refine Calls.quiet_of_same (HL.out _)))
              go_wp2_with fail
              go_meet
              case rel => exact ⟨_, rfl, by rw [HQ.out]; simp [h2], HX.out.1.drewN _⟩
          · have t2 : decide ((x1 : Int) ≤ (j : Int)) = false := decide_eq_false (by omega)
            go_quiet (first | (go_at_call 47; refine Calls.quiet_of_same (key_less _ _ _)))
            go_wp2_with fail
            go_meet
            case rel => exact ⟨false, rfl, by simp [h2], HX.out.1.drewN _⟩
        case rest =>
          obtain ⟨B, rfl, HB⟩ := hcut
          have HN := Lib.hid (HX.out.on HB.out.2)
          cases B
          · have HE : Hid (¬ x1 ≤ j ∨ pLe P dk[x1]! = false) := by
              show _ ∨ _
              by_cases h2 : x1 ≤ j
              · have hq := HB.out.1
                simp only [h2, decide_true, Bool.true_and] at hq
                refine Or.inr ?_
                rw [HG.out, HG.out, HX.out.2.2.1] at hq
                unfold pLe
                simpa using hq.symm
              · exact Or.inl h2
            clear HX HB
            have HIE := HE
            obtain ⟨i1, hi1e⟩ : ∃ i1, i1 = x1 := ⟨_, rfl⟩
            subst hi1e
            have HN1 := HN
            clear HE HN
            have hi1' := hx1
            have hi2' := hx2
            clear hx1 hx2
            go_wp2_with fail
            go_loopw [10] (fun vi wr => ∃ x1 : Nat, vi = .int .i64 x1 ∧ i1 ≤ x1 + 1 ∧ x1 ≤ j ∧ Hid (PartRel w blk off a b (pLe P) d P i1 x1 dk wr)) (fun vi _ => (intOf vi).toNat)
            case atStart => exact ⟨j, rfl, by omega, by omega, HN1⟩
            case round =>
              obtain ⟨x1, rfl, hx1, hx2, HX⟩ := hrel
              go_upto_region 5 with fail
              go_cut [59] from 46 to 61 (fun v wx => ∃ B, v = .bool B ∧ Hid (B = (decide (i1 ≤ x1) && (ltB (G a) (G x1))) ∧ RowAt w blk off dk wx))
              case first =>
                by_cases h2 : i1 ≤ x1
                · have hcw1 := HC.out wr HX.out.1
                  have hless := fun W => key_less (G a) (G x1) W
                  cases hq : ltB (G a) (G x1)
                  · rw [hq] at hless
                    have HL := Lib.hid hless
                    have HQ := Lib.hid hq
                    clear hless hq
                    go_quiet (first | (go_at_call 47; refine Calls.quiet_of_same (HL.out _)))
                    go_wp2_with fail
                    go_meet
                    case rel => exact ⟨_, rfl, by rw [HQ.out]; simp [h2], HX.out.1.drewN _⟩
                  · rw [hq] at hless
                    have HL := Lib.hid hless
                    have HQ := Lib.hid hq
                    clear hless hq
                    go_quiet (first | (go_at_call 47; refine Calls.quiet_of_same (HL.out _)))
                    go_wp2_with fail
                    go_meet
                    case rel => exact ⟨_, rfl, by rw [HQ.out]; simp [h2], HX.out.1.drewN _⟩
                · have t2 : decide ((i1 : Int) ≤ (x1 : Int)) = false := decide_eq_false (by omega)
                  go_quiet (first | (go_at_call 47; refine Calls.quiet_of_same (key_less _ _ _)))
                  go_wp2_with fail
                  go_meet
                  case rel => exact ⟨false, rfl, by simp [h2], HX.out.1.drewN _⟩
              case rest =>
                obtain ⟨B, rfl, HB⟩ := hcut
                have HN := Lib.hid (HX.out.on HB.out.2)
                cases B
                · have HE : Hid (¬ i1 ≤ x1 ∨ pLe P dk[x1]! = true) := by
                    show _ ∨ _
                    by_cases h2 : i1 ≤ x1
                    · have hq := HB.out.1
                      simp only [h2, decide_true, Bool.true_and] at hq
                      refine Or.inr ?_
                      rw [HG.out, HG.out, HX.out.2.2.1] at hq
                      unfold pLe
                      simpa using hq.symm
                    · exact Or.inl h2
                  clear HX HB
                  have HJE := HE
                  have HN2 := HN
                  by_cases hgt : x1 < i1
                  · have hij : i1 = x1 + 1 := by omega
                    have HF := Lib.hid (HN2.out.eqDone hij)
                    go_wp2
                    go_ret
                    exact ⟨i1, rfl, by omega, by omega, by rw [← HP.out]; exact HF.out⟩
                  · have HI : Hid (pLe P dk[i1]! = false) := by
                      rcases HIE.out with h | h
                      · exact absurd (show i1 ≤ j by omega) h
                      · exact h
                    have HJ : Hid (pLe P dk[x1]! = true) := by
                      rcases HJE.out with h | h
                      · exact absurd (show i1 ≤ x1 by omega) h
                      · exact h
                    have hne : i1 ≠ x1 := by
                      intro h
                      have := HI.out
                      rw [h, HJ.out] at this
                      cases this
                    have hcw1 := HC.out _ HN2.out.1
                    have hfw1 : ∀ t, t < d.size → wc.frozen? ⟨blk, off + t, none⟩ = false := fun t ht => HN2.out.1.frozen HH.out hbk ht
                    have HW := Lib.hid (fun q => HN2.out.swap hbk hb (by omega) (by omega) (by omega) HI.out HJ.out q)
                    go_wp2
                    go_region
                    all_goals go_wp2
                    go_roundw
                    case rel =>
                      refine ⟨i1 + 1, x1 - 1, swp dk i1 x1, by go_num, by congr 1; omega, by omega, by omega, by omega, ?_⟩
                      simp only [HG.out]
                      exact HW.out 1
                    case measure => (simp [intOf] <;> omega)
                · have HE : Hid (pLe P dk[x1]! = false ∧ i1 ≤ x1) := by
                    have hq := HB.out.1.symm
                    rw [Bool.and_eq_true, decide_eq_true_eq] at hq
                    have h3 := hq.2
                    rw [HG.out, HG.out, HX.out.2.2.1] at h3
                    refine ⟨?_, hq.1⟩
                    unfold pLe
                    simpa using h3
                  have hx3 := HE.out.2
                  go_wp2
                  go_roundw
                  case rel => exact ⟨x1 - 1, by congr 1; omega, by omega, by omega, HN.out.down HE.out.1⟩
                  case measure => (simp [intOf] <;> omega)
          · have HE : Hid (pLe P dk[x1]! = true ∧ x1 ≤ j) := by
              have hq := HB.out.1.symm
              rw [Bool.and_eq_true, decide_eq_true_eq] at hq
              have h3 := hq.2
              rw [HG.out, HG.out, HX.out.2.2.1] at h3
              refine ⟨?_, hq.1⟩
              unfold pLe
              simpa using h3
            have hx3 := HE.out.2
            go_wp2
            go_roundw
            case rel => exact ⟨x1 + 1, by go_num, by omega, by omega, HN.out.up HE.out.1⟩
            case measure => (simp [intOf] <;> omega)
end Go.Proofs.Ytbebnhadgbkepaa
