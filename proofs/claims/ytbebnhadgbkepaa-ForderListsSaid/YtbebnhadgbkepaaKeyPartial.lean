/- The library's insertion sort that gives up, at keys: nothing but turned; sorted, where it says so. -/
import Derived.Test.YtbebnhadgbkepaaKeyIns
import Derived.Test.YtbebnhadgbkepaaKeyRev
import Derived.BigRegion
import Derived.Deep.CutRange
import Derived.Deep.DeepFit
namespace Go.Proofs.Ytbebnhadgbkepaa
open Go.RowKit ForderPure
open Go.Sort hiding Below
/-- So far turned, and rising from a up to i. -/
def ParRel (w0 : World) (blk off a b : Nat) (d : Array Nat) (i : Nat) (dk : Array Nat) (w : World) : Prop := RowAt w0 blk off dk w ∧ PermIn a b d dk ∧ SortedIn ltB a i dk
theorem ParRel.on {w0 w w' : World} {blk off a b i : Nat} {d dk : Array Nat} (h : ParRel w0 blk off a b d i dk w) (hr : RowAt w0 blk off dk w') : ParRel w0 blk off a b d i dk w' := ⟨hr, h.2⟩
theorem ParRel.snoc {w0 w : World} {blk off a b i : Nat} {d dk : Array Nat} (h : ParRel w0 blk off a b d i dk w) (hl : ltB dk[i]! dk[i - 1]! = false) : ParRel w0 blk off a b d (i + 1) dk w := ⟨h.1, h.2.1, h.2.2.snoc swo_lt hl⟩
/-- Two neighbours change places, at the end of what rises or behind it. -/
theorem ParRel.swap {w0 w : World} {blk off a b i : Nat} {d dk : Array Nat} (h : ParRel w0 blk off a b d i dk w) (hb : blk < w0.heap.size) (hbd : b ≤ d.size) {j : Nat} (hij : i < j) (hai : a ≤ i) (hjb : j < b) (q : Nat) :
    ParRel w0 blk off a b d i (swp dk j (j - 1)) (((w.drewN q).setCell ⟨blk, off + j, none⟩ (.int .u64 (dk[j - 1]! : Int))).setCell ⟨blk, off + (j - 1), none⟩ (.int .u64 (dk[j]! : Int))) := by
  obtain ⟨h1, h2, h3⟩ := h
  have hs : dk.size = d.size := h2.1
  exact ⟨h1.swap hb (by omega) (by omega) q, permIn_trans _ _ _ _ _ h2 (swp_permIn dk a b j (j - 1) (by omega) hjb (by omega) (by omega) (by omega)), h3.congrA fun p hp => swp_other dk j (j - 1) p (by omega) (by omega)⟩
/-- The end of what rises, changed for what stands behind it, goes down from there. -/
theorem ParRel.toIns {w0 w : World} {blk off a b i : Nat} {d dk : Array Nat} (h : ParRel w0 blk off a b d i dk w) (hb : blk < w0.heap.size) (hbd : b ≤ d.size) (hai : a < i) (hib : i < b) (q : Nat) :
    InsRel w0 blk off a b d (i - 1) (i - 1) (swp dk i (i - 1)) (((w.drewN q).setCell ⟨blk, off + i, none⟩ (.int .u64 (dk[i - 1]! : Int))).setCell ⟨blk, off + (i - 1), none⟩ (.int .u64 (dk[i]! : Int))) := by
  obtain ⟨h1, h2, h3⟩ := h
  have hs : dk.size = d.size := h2.1
  refine ⟨h1.swap hb (by omega) (by omega) q, permIn_trans _ _ _ _ _ h2 (swp_permIn dk a b i (i - 1) (by omega) hib (by omega) (by omega) (by omega)), fun p r hap hpr hr hp hr' => ?_, fun r h1 h2 => by omega⟩
  rw [swp_other dk i (i - 1) r (by omega) (by omega), swp_other dk i (i - 1) p (by omega) (by omega)]
  exact h3 p r hap hpr (by omega)
set_option maxHeartbeats 4000000 in
set_option maxRecDepth 100000 in
theorem partial_any (blk off cap a b : Nat) (d : Array Nat) (w : World) (hH : Holds encU w blk off d) (hbk : blk < w.heap.size) (hab : a < b) (hb : b ≤ d.size) (hsz : d.size < 4611686018427387904) (hB : Sort.Below ltB a b d) :
    Calls Try.prog 46 #[.slice (some ⟨blk, off, none⟩) d.size cap, .int .i64 a, .int .i64 b] w fun e w' =>
      ∃ B : Bool, e = .returned (.bool B) ∧ Turned w blk off a b d (fun d' => B = true → SortedIn ltB a b d') w' := by
  have HH := Lib.hid hH
  have HB := Lib.hid hB
  have HS : Hid (ParRel w blk off a b d (a + 1) d w) := ⟨RowAt.start hH, permIn_refl _ _ _, fun p q _ _ _ => by omega⟩
  clear hH hB
  go_enter Try.func46, Try.ntmps46
  go_wp2
  go_loopw [7, 8] (fun vi vs wr => ∃ (i s : Nat) (dk : Array Nat), vi = .int .i64 i ∧ vs = .int .i64 s ∧ a < i ∧ i ≤ b ∧ s ≤ 5 ∧ Hid (ParRel w blk off a b d i dk wr)) (fun _ vs _ => 5 - (intOf vs).toNat)
  case atStart => exact ⟨a + 1, 0, d, by go_num, rfl, by omega, by omega, by omega, HS⟩
  case round =>
    obtain ⟨i, s, dk, rfl, rfl, hai, hib, hs5, HO⟩ := hrel
    by_cases hs : s < 5
    · have HZ : Hid (dk.size = d.size) := HO.out.2.1.1
      obtain ⟨G, hG⟩ := named dk
      have hcw : ∀ W, RowAt w blk off dk W → ∀ t, t < d.size → W.cell? ⟨blk, off + t, none⟩ = some (.int .u64 (G t : Int)) := fun W hW t ht => by
        rw [hG]; exact hW.cell HH.out hbk HZ.out ht
      have HC := Lib.hid hcw
      have HG := Lib.hid hG
      clear hG hcw
      go_wp2_with fail
      go_loopw [7] (fun vi wr => ∃ x1 : Nat, vi = .int .i64 x1 ∧ i ≤ x1 ∧ x1 ≤ b ∧ Hid (ParRel w blk off a b d x1 dk wr)) (fun vi _ => b - (intOf vi).toNat)
      case atStart => exact ⟨i, rfl, Nat.le_refl _, hib, HO⟩
      case round =>
        obtain ⟨x1, rfl, hx1, hx2, HX⟩ := hrel
        go_upto_region 5 with fail
        go_cut [32] from 17 to 34 (fun v wx => ∃ B, v = .bool B ∧ Hid (B = (decide (x1 < b) && !ltB (G x1) (G (x1 - 1))) ∧ RowAt w blk off dk wx))
        case first =>
          by_cases h2 : x1 < b
          · have hcw1 := HC.out wr HX.out.1
            have hless := fun W => key_less (G x1) (G (x1 - 1)) W
            cases hq : ltB (G x1) (G (x1 - 1))
            · rw [hq] at hless
              have HL := Lib.hid hless
              have HQ := Lib.hid hq
              clear hless hq
              go_quiet (first | (go_at_call 47; refine Calls.quiet_of_same (HL.out _)))
              go_wp2_with fail
              go_meet
              case rel => exact ⟨_, rfl, by rw [HQ.out]; simp [h2], HX.out.1.drewN _⟩
            · rw [hq] at hless
              have HL := Lib.hid hless
              have HQ := Lib.hid hq
              clear hless hq
              go_quiet (first | (go_at_call 47; refine Calls.quiet_of_same (HL.out _)))
              go_wp2_with fail
              go_meet
              case rel => exact ⟨_, rfl, by rw [HQ.out]; simp [h2], HX.out.1.drewN _⟩
          · have t2 : decide ((x1 : Int) < (b : Int)) = false := decide_eq_false (by omega)
            go_quiet (first | (go_at_call 47; refine Calls.quiet_of_same (key_less _ _ _)))
            go_wp2_with fail
            go_meet
            case rel => exact ⟨false, rfl, by simp [h2], HX.out.1.drewN _⟩
        case rest =>
          obtain ⟨B, rfl, HBB⟩ := hcut
          have HN := Lib.hid (HX.out.on HBB.out.2)
          cases B
          · clear HX HBB
            by_cases hxb : x1 = b
            · subst hxb
              go_wp2
              go_ret
              exact ⟨true, rfl, dk, HN.out.1, HN.out.2.1, fun _ => HN.out.2.2⟩
            · by_cases h50 : b - a < 50
              · go_wp2
                go_ret
                exact ⟨false, rfl, dk, HN.out.1, HN.out.2.1, fun h => by cases h⟩
              · have hcw1 := HC.out wc HN.out.1
                have hfw1 : ∀ t, t < d.size → wc.frozen? ⟨blk, off + t, none⟩ = false := fun t ht => HN.out.1.frozen HH.out hbk ht
                have HI := Lib.hid (fun q => HN.out.toIns hbk hb (by omega) (by omega) q)
                go_upto_region 11 with fail
                go_cut [] from 13 to 132 (fun wx => Hid (InsRel w blk off a b d (x1 - 1) (x1 - 1) (swp dk x1 (x1 - 1)) wx))
                case first =>
                  go_region
                  all_goals go_wp2_with fail
                  go_meet
                  case rel =>
                    have := HI.out 1
                    rw [← HG.out, ← HG.out] at this
                    exact this
                case rest =>
                  have HI1 : Hid (InsRel w blk off a b d (x1 - 1) (x1 - 1) (swp dk x1 (x1 - 1)) wc) := hcut
                  clear hcut hcw1 hfw1 HC HG HZ HI HN
                  go_upto_if 61 with fail
                  go_cut [9] from 13 to 132 (fun _ wx => Hid (∃ d2, ParRel w blk off a b d x1 d2 wx))
                  case first =>
                    by_cases hd2 : 2 ≤ x1 - a
                    · go_wp2_with fail
                      go_loopw [9] (fun vj wr => ∃ (j : Nat) (dj : Array Nat), vj = .int .i64 j ∧ a ≤ j ∧ j ≤ x1 - 1 ∧ Hid (InsRel w blk off a b d (x1 - 1) j dj wr)) (fun vj _ => (intOf vj).toNat)
                      case atStart => exact ⟨x1 - 1, _, by congr 1; omega, by omega, Nat.le_refl _, HI1⟩
                      case round =>
                        obtain ⟨j, dj, rfl, haj, hji, HJ⟩ := hrel
                        have OUT : Hid ((j ≤ a ∨ ltB dj[j]! dj[j - 1]! = false) → ∀ q, ∃ d2, ParRel w blk off a b d x1 d2 (wr.drewN q)) := by
                          show _ → ∀ q, _
                          intro h q
                          have h3 := HJ.out.2.2.stop swo_lt h
                          rw [show x1 - 1 + 1 = x1 by omega] at h3
                          exact ⟨dj, HJ.out.1.drewN q, HJ.out.2.1, h3⟩
                        by_cases hj1 : 1 ≤ j
                        · obtain ⟨G, hG⟩ := named dj
                          have hsj : dj.size = d.size := HJ.out.2.1.1
                          have hcw : ∀ t, t < d.size → wr.cell? ⟨blk, off + t, none⟩ = some (.int .u64 (G t : Int)) := fun t ht => by
                            rw [hG]; exact HJ.out.1.cell HH.out hbk hsj ht
                          have hfw : ∀ t, t < d.size → wr.frozen? ⟨blk, off + t, none⟩ = false := fun t ht => HJ.out.1.frozen HH.out hbk ht
                          have HG := Lib.hid hG
                          have HZ := Lib.hid hsj
                          clear hG hsj
                          have hless := fun W => key_less (G j) (G (j - 1)) W
                          cases hq : ltB (G j) (G (j - 1))
                          · rw [hq] at hless
                            have HL := Lib.hid hless
                            have HQ : Hid (ltB dj[j]! dj[j - 1]! = false) := by rw [← HG.out, ← HG.out]; exact hq
                            clear hless hq
                            go_upto_region 16 with fail
                            go_quiet (first | (go_at_call 47; refine Calls.quiet_of_same (HL.out _)))
                            go_wp2_with fail
                            go_meet
                            case rel => exact OUT.out (Or.inr HQ.out) _
                          · rw [hq] at hless
                            have HL := Lib.hid hless
                            have HQ : Hid (ltB dj[j]! dj[j - 1]! = true) := by rw [← HG.out, ← HG.out]; exact hq
                            have hja : a < j := by
                              rcases HB.out with h0 | h0
                              · omega
                              · have hperm := permIn_all d dj a b (fun x => ltB x d[a - 1]! = false) hb HJ.out.2.1 h0
                                have hz : ¬ j = a := by
                                  intro he
                                  subst he
                                  have h1 := hperm j (Nat.le_refl _) hab
                                  have h2 := HJ.out.2.1.2.1 (j - 1) (Or.inl (by omega))
                                  rw [← h2, HQ.out] at h1
                                  cases h1
                                omega
                            clear hless hq
                            go_upto_region 16 with fail
                            go_quiet (first | (go_at_call 47; refine Calls.quiet_of_same (HL.out _)))
                            go_wp2_with fail
                            go_region
                            all_goals go_wp2
                            go_roundw
                            case rel =>
                              refine ⟨j - 1, swp dj j (j - 1), by congr 1; omega, by omega, by omega, ?_, ?_, ?_⟩
                              · rw [HG.out, HG.out]
                                exact HJ.out.1.swap hbk (by rw [HZ.out]; omega) (by rw [HZ.out]; omega) _
                              · exact permIn_trans _ _ _ _ _ HJ.out.2.1 (swp_permIn _ _ _ _ _ (by omega) (by omega) (by omega) (by omega) (by rw [HZ.out]; exact hb))
                              · have h3 := HJ.out.2.2
                                have h4 := HQ.out
                                obtain ⟨k, rfl⟩ : ∃ k, j = k + 1 := ⟨j - 1, by omega⟩
                                exact h3.step h4 (by omega) (by rw [HZ.out]; omega)
                            case measure => (simp [intOf] <;> omega)
                        · go_wp2_with fail
                          go_meet
                          case rel => exact OUT.out (Or.inl (by omega)) 0
                    · go_wp2_with fail
                      go_meet
                      case rel => exact ⟨_, HI1.out.1, HI1.out.2.1, fun p q hp hpq hq => by omega⟩
                  case rest =>
                    obtain ⟨d2, h2⟩ := hcut
                    have H2 := Lib.hid h2
                    clear h2
                    go_upto_if 98 with fail
                    by_cases hd3 : 2 ≤ b - x1
                    · go_wp2_with fail
                      go_loopw [10] (fun vj wr => ∃ (j : Nat) (du : Array Nat), vj = .int .i64 j ∧ x1 + 1 ≤ j ∧ j ≤ b ∧ Hid (ParRel w blk off a b d x1 du wr)) (fun vj _ => b - (intOf vj).toNat)
                      case atStart => exact ⟨x1 + 1, d2, by go_num, Nat.le_refl _, by omega, H2⟩
                      case round =>
                        obtain ⟨j, du, rfl, hj1, hj2, HU⟩ := hrel
                        by_cases hjb : j < b
                        · obtain ⟨G, hG⟩ := named du
                          have hsj : du.size = d.size := HU.out.2.1.1
                          have hcw : ∀ t, t < d.size → wr.cell? ⟨blk, off + t, none⟩ = some (.int .u64 (G t : Int)) := fun t ht => by
                            rw [hG]; exact HU.out.1.cell HH.out hbk hsj ht
                          have hfw : ∀ t, t < d.size → wr.frozen? ⟨blk, off + t, none⟩ = false := fun t ht => HU.out.1.frozen HH.out hbk ht
                          have HG := Lib.hid hG
                          clear hG hsj
                          have hless := fun W => key_less (G j) (G (j - 1)) W
                          cases hq : ltB (G j) (G (j - 1))
                          · rw [hq] at hless
                            have HL := Lib.hid hless
                            clear hless hq
                            go_upto_region 22 with fail
                            go_quiet (first | (go_at_call 47; refine Calls.quiet_of_same (HL.out _)))
                            go_wp2
                            go_roundw
                            case rel => exact ⟨x1, s + 1, _, rfl, by go_num, by omega, by omega, by omega, HU.out.on (HU.out.1.drewN _)⟩
                            case measure => (simp [intOf] <;> omega)
                          · rw [hq] at hless
                            have HL := Lib.hid hless
                            clear hless hq
                            go_upto_region 22 with fail
                            go_quiet (first | (go_at_call 47; refine Calls.quiet_of_same (HL.out _)))
                            go_wp2_with fail
                            go_region
                            all_goals go_wp2
                            go_roundw
                            case rel =>
                              refine ⟨j + 1, swp du j (j - 1), by go_num, by omega, by omega, ?_⟩
                              rw [HG.out, HG.out]
                              exact HU.out.swap hbk hb (by omega) (by omega) hjb _
                            case measure => (simp [intOf] <;> omega)
                        · go_wp2
                          go_roundw
                          case rel => exact ⟨x1, s + 1, _, rfl, by go_num, by omega, by omega, by omega, HU.out⟩
                          case measure => (simp [intOf] <;> omega)
                    · go_wp2
                      go_roundw
                      case rel => exact ⟨x1, s + 1, _, rfl, by go_num, by omega, by omega, by omega, H2.out⟩
                      case measure => (simp [intOf] <;> omega)
          · have HE : Hid (ltB dk[x1]! dk[x1 - 1]! = false ∧ x1 < b) := by
              have hq := HBB.out.1.symm
              rw [Bool.and_eq_true, decide_eq_true_eq] at hq
              have h3 := hq.2
              rw [HG.out, HG.out] at h3
              exact ⟨by simpa using h3, hq.1⟩
            have hx3 := HE.out.2
            go_wp2
            go_roundw
            case rel => exact ⟨x1 + 1, by go_num, by omega, by omega, HN.out.snoc HE.out.1⟩
            case measure => (simp [intOf] <;> omega)
    · go_wp2
      go_ret
      exact ⟨false, rfl, dk, HO.out.1, HO.out.2.1, fun h => by cases h⟩
end Go.Proofs.Ytbebnhadgbkepaa
