/- The library's parting of a range of keys in two. -/
import Derived.Test.YtceejjgmepaonaaGreatDoorPk12
import Derived.BigRegion
import Derived.Deep.CutRange
import Derived.Deep.DeepFit
namespace Go.Proofs.YtceejjgmepaonaaGreatDoor.Gk
open Go.RowKit
open Go.Sort hiding Below
set_option maxHeartbeats 4000000 in
set_option maxRecDepth 100000 in
theorem part_any (blk off cap a b v : Nat) (d : Array Nat) (w : World) (hH : Holds encU w blk off d) (hbk : blk < w.heap.size) (hav : a ≤ v) (hvb : v < b) (hb : b ≤ d.size) (hsz : d.size < 4611686018427387904) :
    Calls Tryz.prog 74 #[.slice (some ⟨blk, off, none⟩) d.size cap, .int .i64 a, .int .i64 b, .int .i64 v] w fun e w' =>
      ∃ (m : Nat) (B : Bool), e = .returned (.tuple #[.int .i64 m, .bool B]) ∧ a ≤ m ∧ m < b ∧ PartDone w blk off a b d m w' := by
  have HH := Lib.hid hH
  obtain ⟨P, hP⟩ : ∃ P, P = d[v]! := ⟨_, rfl⟩
  have HS : Hid (∀ q, PartRel w blk off a b (pLt P) d P (a + 1) (b - 1) (swp d a v) (((w.drewN q).setCell ⟨blk, off + a, none⟩ (.int .u32 (d[v]! : Int))).setCell ⟨blk, off + v, none⟩ (.int .u32 (d[a]! : Int)))) := by
    rw [hP]; exact PartRel.start (RowAt.start hH) hbk hb hav hvb
  obtain ⟨G0, hG0⟩ := named d
  have hcw : ∀ t, t < d.size → w.cell? ⟨blk, off + t, none⟩ = some (.int .u32 (G0 t : Int)) := fun t ht => by
    rw [hG0]; exact (hH t ht).1
  have hfw : ∀ t, t < d.size → w.frozen? ⟨blk, off + t, none⟩ = false := fun t ht => (hH t ht).2
  have HG0 := Lib.hid hG0
  clear hH hG0 hP
  go_enter Tryz.func74, Tryz.ntmps74
  go_upto_region 1 with fail
  go_cut [] from 12 (fun wx => Hid (PartRel w blk off a b (pLt P) d P (a + 1) (b - 1) (swp d a v) wx))
  case first =>
    by_cases hva : v = a
    · subst hva
      go_region
      all_goals go_wp2_with fail
      go_meet
      case rel =>
        have := HS.out 1
        rw [← HG0.out] at this
        exact this
    · go_region
      all_goals go_wp2_with fail
      go_meet
      case rel =>
        have := HS.out 1
        rw [← HG0.out, ← HG0.out] at this
        exact this
  case rest =>
    have HM : Hid (PartRel w blk off a b (pLt P) d P (a + 1) (b - 1) (swp d a v) wc) := hcut
    clear hcut hcw hfw HS
    obtain ⟨dk, hdk⟩ : ∃ dk, dk = swp d a v := ⟨_, rfl⟩
    rw [← hdk] at HM
    clear hdk
    obtain ⟨i, hie⟩ : ∃ i, i = a + 1 := ⟨_, rfl⟩
    obtain ⟨j, hje⟩ : ∃ j, j = b - 1 := ⟨_, rfl⟩
    rw [← hie, ← hje] at HM
    have hiz : (a : Int) + 1 = (i : Int) := by omega
    have hjz : (b : Int) - 1 = (j : Int) := by omega
    have hi1 : a < i := by omega
    have hi2 : i ≤ a + 1 := by omega
    have hj1 : j < b := by omega
    have hj2 : b ≤ j + 1 := by omega
    clear hie hje
    have HZ : Hid (dk.size = d.size) := HM.out.2.1.1
    obtain ⟨G, hG⟩ := named dk
    have hcw : ∀ W, RowAt w blk off dk W → ∀ t, t < d.size → W.cell? ⟨blk, off + t, none⟩ = some (.int .u32 (G t : Int)) := fun W hW t ht => by
      rw [hG]; exact hW.cell HH.out hbk HZ.out ht
    have HC := Lib.hid hcw
    have HG := Lib.hid hG
    clear hG hcw
    go_wp2_with fail
    go_loopw [10] (fun vi wr => ∃ x1 : Nat, vi = .int .i64 x1 ∧ i ≤ x1 ∧ x1 ≤ j + 1 ∧ Hid (PartRel w blk off a b (pLt P) d P x1 j dk wr)) (fun vi _ => j + 1 - (intOf vi).toNat)
    case atStart => exact ⟨i, rfl, by omega, by omega, HM⟩
    case round =>
      obtain ⟨x1, rfl, hx1, hx2, HX⟩ := hrel
      go_upto_region 3 with fail
      go_cut [43] from 30 to 45 (fun v wx => ∃ B, v = .bool B ∧ Hid (B = (decide (x1 ≤ j) && (ltB (G x1) (G a))) ∧ RowAt w blk off dk wx))
      case first =>
        by_cases h2 : x1 ≤ j
        · have hcw1 := HC.out wr HX.out.1
          have hless := fun W => key_less (G x1) (G a) W
          cases hq : ltB (G x1) (G a)
          · rw [hq] at hless
            have HL := Lib.hid hless
            have HQ := Lib.hid hq
            clear hless hq
            go_quiet (first | (go_at_call 72; refine Calls.quiet_of_same (HL.out _)))
            go_wp2_with fail
            go_meet
            case rel => exact ⟨_, rfl, by rw [HQ.out]; simp [h2], HX.out.1.drewN _⟩
          · rw [hq] at hless
            have HL := Lib.hid hless
            have HQ := Lib.hid hq
            clear hless hq
            go_quiet (first | (go_at_call 72; refine Calls.quiet_of_same (HL.out _)))
            go_wp2_with fail
            go_meet
            case rel => exact ⟨_, rfl, by rw [HQ.out]; simp [h2], HX.out.1.drewN _⟩
        · have t2 : decide ((x1 : Int) ≤ (j : Int)) = false := decide_eq_false (by omega)
          go_quiet (first | (go_at_call 72; refine Calls.quiet_of_same (key_less _ _ _)))
          go_wp2_with fail
          go_meet
          case rel => exact ⟨false, rfl, by simp [h2], HX.out.1.drewN _⟩
      case rest =>
        obtain ⟨B, rfl, HB⟩ := hcut
        have HN := Lib.hid (HX.out.on HB.out.2)
        cases B
        · have HE : Hid (¬ x1 ≤ j ∨ pLt P dk[x1]! = false) := by
            show _ ∨ _
            by_cases h2 : x1 ≤ j
            · have hq := HB.out.1
              simp only [h2, decide_true, Bool.true_and] at hq
              refine Or.inr ?_
              rw [HG.out, HG.out, HX.out.2.2.1] at hq
              unfold pLt
              simpa using hq.symm
            · exact Or.inl h2
          clear HX HB
          have HIE := HE
          obtain ⟨i1, hi1e⟩ : ∃ i1, i1 = x1 := ⟨_, rfl⟩
          subst hi1e
          have HN1 := HN
          clear HE HN
          have hi1' := hx1
          have hi2' := hx2
          clear hx1 hx2
          go_wp2_with fail
          go_loopw [11] (fun vi wr => ∃ x1 : Nat, vi = .int .i64 x1 ∧ i1 ≤ x1 + 1 ∧ x1 ≤ j ∧ Hid (PartRel w blk off a b (pLt P) d P i1 x1 dk wr)) (fun vi _ => (intOf vi).toNat)
          case atStart => exact ⟨j, rfl, by omega, by omega, HN1⟩
          case round =>
            obtain ⟨x1, rfl, hx1, hx2, HX⟩ := hrel
            go_upto_region 5 with fail
            go_cut [60] from 46 to 62 (fun v wx => ∃ B, v = .bool B ∧ Hid (B = (decide (i1 ≤ x1) && (!ltB (G x1) (G a))) ∧ RowAt w blk off dk wx))
            case first =>
              by_cases h2 : i1 ≤ x1
              · have hcw1 := HC.out wr HX.out.1
                have hless := fun W => key_less (G x1) (G a) W
                cases hq : ltB (G x1) (G a)
                · rw [hq] at hless
                  have HL := Lib.hid hless
                  have HQ := Lib.hid hq
                  clear hless hq
                  go_quiet (first | (go_at_call 72; refine Calls.quiet_of_same (HL.out _)))
                  go_wp2_with fail
                  go_meet
                  case rel => exact ⟨_, rfl, by rw [HQ.out]; simp [h2], HX.out.1.drewN _⟩
                · rw [hq] at hless
                  have HL := Lib.hid hless
                  have HQ := Lib.hid hq
                  clear hless hq
                  go_quiet (first | (go_at_call 72; refine Calls.quiet_of_same (HL.out _)))
                  go_wp2_with fail
                  go_meet
                  case rel => exact ⟨_, rfl, by rw [HQ.out]; simp [h2], HX.out.1.drewN _⟩
              · have t2 : decide ((i1 : Int) ≤ (x1 : Int)) = false := decide_eq_false (by omega)
                go_quiet (first | (go_at_call 72; refine Calls.quiet_of_same (key_less _ _ _)))
                go_wp2_with fail
                go_meet
                case rel => exact ⟨false, rfl, by simp [h2], HX.out.1.drewN _⟩
            case rest =>
              obtain ⟨B, rfl, HB⟩ := hcut
              have HN := Lib.hid (HX.out.on HB.out.2)
              cases B
              · have HE : Hid (¬ i1 ≤ x1 ∨ pLt P dk[x1]! = true) := by
                  show _ ∨ _
                  by_cases h2 : i1 ≤ x1
                  · have hq := HB.out.1
                    simp only [h2, decide_true, Bool.true_and] at hq
                    refine Or.inr ?_
                    rw [HG.out, HG.out, HX.out.2.2.1] at hq
                    unfold pLt
                    simpa using hq.symm
                  · exact Or.inl h2
                clear HX HB
                have HJE := HE
                have HN2 := HN
                by_cases hgt : x1 < i1
                · have hij : i1 = x1 + 1 := by omega
                  have hcw1 := HC.out _ HN2.out.1
                  have hfw1 : ∀ t, t < d.size → wc.frozen? ⟨blk, off + t, none⟩ = false := fun t ht => HN2.out.1.frozen HH.out hbk ht
                  have HF := Lib.hid (fun q => HN2.out.done hbk hb (by omega) hij (by omega) q)
                  by_cases hja : x1 = a
                  · subst hja
                    go_wp2
                    go_region
                    all_goals go_wp2
                    go_ret2
                    refine ⟨x1, true, rfl, by omega, by omega, ?_⟩
                    simp only [HG.out]
                    exact HF.out 1
                  · go_wp2
                    go_region
                    all_goals go_wp2
                    go_ret2
                    refine ⟨x1, true, rfl, by omega, by omega, ?_⟩
                    simp only [HG.out]
                    exact HF.out 1
                · have HI : Hid (pLt P dk[i1]! = false) := by
                    rcases HIE.out with h | h
                    · exact absurd (show i1 ≤ j by omega) h
                    · exact h
                  have HJ : Hid (pLt P dk[x1]! = true) := by
                    rcases HJE.out with h | h
                    · exact absurd (show i1 ≤ x1 by omega) h
                    · exact h
                  have hne : i1 ≠ x1 := by
                    intro h
                    have := HI.out
                    rw [h, HJ.out] at this
                    cases this
                  have hcw1 := HC.out _ HN2.out.1
                  have hfw1 : ∀ t, t < d.size → wc.frozen? ⟨blk, off + t, none⟩ = false := fun t ht => HN2.out.1.frozen HH.out hbk ht
                  have HW := Lib.hid (fun q => HN2.out.swap hbk hb (by omega) (by omega) (by omega) HI.out HJ.out q)
                  go_wp2
                  go_region
                  all_goals go_wp2
                  have HM2 : Hid (PartRel w blk off a b (pLt P) d P (i1 + 1) (x1 - 1) (swp dk i1 x1) (((wc.drewN 1).setCell ⟨blk, off + i1, none⟩ (.int .u32 (G x1 : Int))).setCell ⟨blk, off + x1, none⟩ (.int .u32 (G i1 : Int)))) := by
                    show PartRel _ _ _ _ _ _ _ _ _ _ _ _
                    simp only [HG.out]
                    exact HW.out 1
                  have hb1 : a < i1 + 1 := by omega
                  have hb2 : i1 + 1 ≤ x1 - 1 + 1 := by omega
                  have hb3 : x1 - 1 < b := by omega
                  go_loopw [10, 11] (fun vi vj wr => ∃ (i j : Nat) (dk : Array Nat), vi = .int .i64 i ∧ vj = .int .i64 j ∧ a < i ∧ i ≤ j + 1 ∧ j < b ∧ Hid (PartRel w blk off a b (pLt P) d P i j dk wr)) (fun vi vj _ => (intOf vj).toNat + 1 - (intOf vi).toNat)
                  case atStart => exact ⟨i1 + 1, x1 - 1, swp dk i1 x1, by go_num, by congr 1; omega, hb1, hb2, hb3, HM2⟩
                  case round =>
                    clear HC HG HZ HN1 HN2 HI HJ HIE HJE HE HN HW HM2 HM hcw1 hfw1
                    obtain ⟨i, j, dk, rfl, rfl, hi1, hi2, hj1, HM⟩ := hrel
                    have HZ : Hid (dk.size = d.size) := HM.out.2.1.1
                    obtain ⟨G, hG⟩ := named dk
                    have hcw : ∀ W, RowAt w blk off dk W → ∀ t, t < d.size → W.cell? ⟨blk, off + t, none⟩ = some (.int .u32 (G t : Int)) := fun W hW t ht => by
                      rw [hG]; exact hW.cell HH.out hbk HZ.out ht
                    have HC := Lib.hid hcw
                    have HG := Lib.hid hG
                    clear hG hcw
                    go_wp2_with fail
                    go_loopw [10] (fun vi wr => ∃ x1 : Nat, vi = .int .i64 x1 ∧ i ≤ x1 ∧ x1 ≤ j + 1 ∧ Hid (PartRel w blk off a b (pLt P) d P x1 j dk wr)) (fun vi _ => j + 1 - (intOf vi).toNat)
                    case atStart => exact ⟨i, rfl, by omega, by omega, HM⟩
                    case round =>
                      obtain ⟨x1, rfl, hx1, hx2, HX⟩ := hrel
                      go_upto_region 13 with fail
                      go_cut [112] from 99 to 114 (fun v wx => ∃ B, v = .bool B ∧ Hid (B = (decide (x1 ≤ j) && (ltB (G x1) (G a))) ∧ RowAt w blk off dk wx))
                      case first =>
                        by_cases h2 : x1 ≤ j
                        · have hcw1 := HC.out wr HX.out.1
                          have hless := fun W => key_less (G x1) (G a) W
                          cases hq : ltB (G x1) (G a)
                          · rw [hq] at hless
                            have HL := Lib.hid hless
                            have HQ := Lib.hid hq
                            clear hless hq
                            go_quiet (first | (go_at_call 72; refine Calls.quiet_of_same (HL.out _)))
                            go_wp2_with fail
                            go_meet
                            case rel => exact ⟨_, rfl, by rw [HQ.out]; simp [h2], HX.out.1.drewN _⟩
                          · rw [hq] at hless
                            have HL := Lib.hid hless
                            have HQ := Lib.hid hq
                            clear hless hq
                            go_quiet (first | (go_at_call 72; refine Calls.quiet_of_same (HL.out _)))
                            go_wp2_with fail
                            go_meet
                            case rel => exact ⟨_, rfl, by rw [HQ.out]; simp [h2], HX.out.1.drewN _⟩
                        · have t2 : decide ((x1 : Int) ≤ (j : Int)) = false := decide_eq_false (by omega)
                          go_quiet (first | (go_at_call 72; refine Calls.quiet_of_same (key_less _ _ _)))
                          go_wp2_with fail
                          go_meet
                          case rel => exact ⟨false, rfl, by simp [h2], HX.out.1.drewN _⟩
                      case rest =>
                        obtain ⟨B, rfl, HB⟩ := hcut
                        have HN := Lib.hid (HX.out.on HB.out.2)
                        cases B
                        · have HE : Hid (¬ x1 ≤ j ∨ pLt P dk[x1]! = false) := by
                            show _ ∨ _
                            by_cases h2 : x1 ≤ j
                            · have hq := HB.out.1
                              simp only [h2, decide_true, Bool.true_and] at hq
                              refine Or.inr ?_
                              rw [HG.out, HG.out, HX.out.2.2.1] at hq
                              unfold pLt
                              simpa using hq.symm
                            · exact Or.inl h2
                          clear HX HB
                          have HIE := HE
                          obtain ⟨i1, hi1e⟩ : ∃ i1, i1 = x1 := ⟨_, rfl⟩
                          subst hi1e
                          have HN1 := HN
                          clear HE HN
                          have hi1' := hx1
                          have hi2' := hx2
                          clear hx1 hx2
                          go_wp2_with fail
                          go_loopw [11] (fun vi wr => ∃ x1 : Nat, vi = .int .i64 x1 ∧ i1 ≤ x1 + 1 ∧ x1 ≤ j ∧ Hid (PartRel w blk off a b (pLt P) d P i1 x1 dk wr)) (fun vi _ => (intOf vi).toNat)
                          case atStart => exact ⟨j, rfl, by omega, by omega, HN1⟩
                          case round =>
                            obtain ⟨x1, rfl, hx1, hx2, HX⟩ := hrel
                            go_upto_region 15 with fail
                            go_cut [129] from 115 to 131 (fun v wx => ∃ B, v = .bool B ∧ Hid (B = (decide (i1 ≤ x1) && (!ltB (G x1) (G a))) ∧ RowAt w blk off dk wx))
                            case first =>
                              by_cases h2 : i1 ≤ x1
                              · have hcw1 := HC.out wr HX.out.1
                                have hless := fun W => key_less (G x1) (G a) W
                                cases hq : ltB (G x1) (G a)
                                · rw [hq] at hless
                                  have HL := Lib.hid hless
                                  have HQ := Lib.hid hq
                                  clear hless hq
                                  go_quiet (first | (go_at_call 72; refine Calls.quiet_of_same (HL.out _)))
                                  go_wp2_with fail
                                  go_meet
                                  case rel => exact ⟨_, rfl, by rw [HQ.out]; simp [h2], HX.out.1.drewN _⟩
                                · rw [hq] at hless
                                  have HL := Lib.hid hless
                                  have HQ := Lib.hid hq
                                  clear hless hq
                                  go_quiet (first | (go_at_call 72; refine Calls.quiet_of_same (HL.out _)))
                                  go_wp2_with fail
                                  go_meet
                                  case rel => exact ⟨_, rfl, by rw [HQ.out]; simp [h2], HX.out.1.drewN _⟩
                              · have t2 : decide ((i1 : Int) ≤ (x1 : Int)) = false := decide_eq_false (by omega)
                                go_quiet (first | (go_at_call 72; refine Calls.quiet_of_same (key_less _ _ _)))
                                go_wp2_with fail
                                go_meet
                                case rel => exact ⟨false, rfl, by simp [h2], HX.out.1.drewN _⟩
                            case rest =>
                              obtain ⟨B, rfl, HB⟩ := hcut
                              have HN := Lib.hid (HX.out.on HB.out.2)
                              cases B
                              · have HE : Hid (¬ i1 ≤ x1 ∨ pLt P dk[x1]! = true) := by
                                  show _ ∨ _
                                  by_cases h2 : i1 ≤ x1
                                  · have hq := HB.out.1
                                    simp only [h2, decide_true, Bool.true_and] at hq
                                    refine Or.inr ?_
                                    rw [HG.out, HG.out, HX.out.2.2.1] at hq
                                    unfold pLt
                                    simpa using hq.symm
                                  · exact Or.inl h2
                                clear HX HB
                                have HJE := HE
                                have HN2 := HN
                                by_cases hgt : x1 < i1
                                · have hij : i1 = x1 + 1 := by omega
                                  have hcw1 := HC.out _ HN2.out.1
                                  have hfw1 : ∀ t, t < d.size → wc.frozen? ⟨blk, off + t, none⟩ = false := fun t ht => HN2.out.1.frozen HH.out hbk ht
                                  have HF := Lib.hid (fun q => HN2.out.done hbk hb (by omega) hij (by omega) q)
                                  by_cases hja : x1 = a
                                  · subst hja
                                    go_wp2
                                    go_region
                                    all_goals go_wp2
                                    go_ret2
                                    refine ⟨x1, false, rfl, by omega, by omega, ?_⟩
                                    simp only [HG.out]
                                    exact HF.out 1
                                  · go_wp2
                                    go_region
                                    all_goals go_wp2
                                    go_ret2
                                    refine ⟨x1, false, rfl, by omega, by omega, ?_⟩
                                    simp only [HG.out]
                                    exact HF.out 1
                                · have HI : Hid (pLt P dk[i1]! = false) := by
                                    rcases HIE.out with h | h
                                    · exact absurd (show i1 ≤ j by omega) h
                                    · exact h
                                  have HJ : Hid (pLt P dk[x1]! = true) := by
                                    rcases HJE.out with h | h
                                    · exact absurd (show i1 ≤ x1 by omega) h
                                    · exact h
                                  have hne : i1 ≠ x1 := by
                                    intro h
                                    have := HI.out
                                    rw [h, HJ.out] at this
                                    cases this
                                  have hcw1 := HC.out _ HN2.out.1
                                  have hfw1 : ∀ t, t < d.size → wc.frozen? ⟨blk, off + t, none⟩ = false := fun t ht => HN2.out.1.frozen HH.out hbk ht
                                  have HW := Lib.hid (fun q => HN2.out.swap hbk hb (by omega) (by omega) (by omega) HI.out HJ.out q)
                                  go_wp2
                                  go_region
                                  all_goals go_wp2
                                  go_roundw
                                  case rel =>
                                    refine ⟨i1 + 1, x1 - 1, swp dk i1 x1, by go_num, by congr 1; omega, by omega, by omega, by omega, ?_⟩
                                    simp only [HG.out]
                                    exact HW.out 1
                                  case measure => (simp [intOf] <;> omega)
                              · have HE : Hid (pLt P dk[x1]! = false ∧ i1 ≤ x1) := by
                                  have hq := HB.out.1.symm
                                  rw [Bool.and_eq_true, decide_eq_true_eq] at hq
                                  have h3 := hq.2
                                  rw [HG.out, HG.out, HX.out.2.2.1] at h3
                                  refine ⟨?_, hq.1⟩
                                  unfold pLt
                                  simpa using h3
                                have hx3 := HE.out.2
                                go_wp2
                                go_roundw
                                case rel => exact ⟨x1 - 1, by congr 1; omega, by omega, by omega, HN.out.down HE.out.1⟩
                                case measure => (simp [intOf] <;> omega)
                        · have HE : Hid (pLt P dk[x1]! = true ∧ x1 ≤ j) := by
                            have hq := HB.out.1.symm
                            rw [Bool.and_eq_true, decide_eq_true_eq] at hq
                            have h3 := hq.2
                            rw [HG.out, HG.out, HX.out.2.2.1] at h3
                            refine ⟨?_, hq.1⟩
                            unfold pLt
                            simpa using h3
                          have hx3 := HE.out.2
                          go_wp2
                          go_roundw
                          case rel => exact ⟨x1 + 1, by go_num, by omega, by omega, HN.out.up HE.out.1⟩
                          case measure => (simp [intOf] <;> omega)
              · have HE : Hid (pLt P dk[x1]! = false ∧ i1 ≤ x1) := by
                  have hq := HB.out.1.symm
                  rw [Bool.and_eq_true, decide_eq_true_eq] at hq
                  have h3 := hq.2
                  rw [HG.out, HG.out, HX.out.2.2.1] at h3
                  refine ⟨?_, hq.1⟩
                  unfold pLt
                  simpa using h3
                have hx3 := HE.out.2
                go_wp2
                go_roundw
                case rel => exact ⟨x1 - 1, by congr 1; omega, by omega, by omega, HN.out.down HE.out.1⟩
                case measure => (simp [intOf] <;> omega)
        · have HE : Hid (pLt P dk[x1]! = true ∧ x1 ≤ j) := by
            have hq := HB.out.1.symm
            rw [Bool.and_eq_true, decide_eq_true_eq] at hq
            have h3 := hq.2
            rw [HG.out, HG.out, HX.out.2.2.1] at h3
            refine ⟨?_, hq.1⟩
            unfold pLt
            simpa using h3
          have hx3 := HE.out.2
          go_wp2
          go_roundw
          case rel => exact ⟨x1 + 1, by go_num, by omega, by omega, HN.out.up HE.out.1⟩
          case measure => (simp [intOf] <;> omega)
end Go.Proofs.YtceejjgmepaonaaGreatDoor.Gk
