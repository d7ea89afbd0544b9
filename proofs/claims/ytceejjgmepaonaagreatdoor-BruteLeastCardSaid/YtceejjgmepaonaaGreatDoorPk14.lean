/- Texts that the laws of this seat stand on, part 14. -/
import Derived.Test.YtceejjgmepaonaaGreatDoorPk10
import Derived.Test.YtceejjgmepaonaaGreatDoorPk11
import Derived.BigRegion
import Derived.Deep.CutRange
import Derived.Deep.DeepFit
import Derived.Test.YtceejjgmepaonaaGreatDoorPk12
/- The library's insertion sort that gives up, at keys: nothing but turned; sorted, where it says so. -/
namespace Go.Proofs.YtceejjgmepaonaaGreatDoor.Gk
open Go.RowKit
open Go.Sort hiding Below
/-- So far turned, and rising from a up to i. -/
def ParRel (w0 : World) (blk off a b : Nat) (d : Array Nat) (i : Nat) (dk : Array Nat) (w : World) : Prop := RowAt w0 blk off dk w ∧ PermIn a b d dk ∧ SortedIn ltB a i dk
theorem ParRel.on {w0 w w' : World} {blk off a b i : Nat} {d dk : Array Nat} (h : ParRel w0 blk off a b d i dk w) (hr : RowAt w0 blk off dk w') : ParRel w0 blk off a b d i dk w' := ⟨hr, h.2⟩
theorem ParRel.snoc {w0 w : World} {blk off a b i : Nat} {d dk : Array Nat} (h : ParRel w0 blk off a b d i dk w) (hl : ltB dk[i]! dk[i - 1]! = false) : ParRel w0 blk off a b d (i + 1) dk w := ⟨h.1, h.2.1, h.2.2.snoc swo_lt hl⟩
/-- Two neighbours change places, at the end of what rises or behind it. -/
theorem ParRel.swap {w0 w : World} {blk off a b i : Nat} {d dk : Array Nat} (h : ParRel w0 blk off a b d i dk w) (hb : blk < w0.heap.size) (hbd : b ≤ d.size) {j : Nat} (hij : i < j) (hai : a ≤ i) (hjb : j < b) (q : Nat) :
    ParRel w0 blk off a b d i (swp dk j (j - 1)) (((w.drewN q).setCell ⟨blk, off + j, none⟩ (.int .u32 (dk[j - 1]! : Int))).setCell ⟨blk, off + (j - 1), none⟩ (.int .u32 (dk[j]! : Int))) := by
  obtain ⟨h1, h2, h3⟩ := h
  have hs : dk.size = d.size := h2.1
  exact ⟨h1.swap hb (by omega) (by omega) q, permIn_trans _ _ _ _ _ h2 (swp_permIn dk a b j (j - 1) (by omega) hjb (by omega) (by omega) (by omega)), h3.congrA fun p hp => swp_other dk j (j - 1) p (by omega) (by omega)⟩
/-- The end of what rises, changed for what stands behind it, goes down from there. -/
theorem ParRel.toIns {w0 w : World} {blk off a b i : Nat} {d dk : Array Nat} (h : ParRel w0 blk off a b d i dk w) (hb : blk < w0.heap.size) (hbd : b ≤ d.size) (hai : a < i) (hib : i < b) (q : Nat) :
    InsRel w0 blk off a b d (i - 1) (i - 1) (swp dk i (i - 1)) (((w.drewN q).setCell ⟨blk, off + i, none⟩ (.int .u32 (dk[i - 1]! : Int))).setCell ⟨blk, off + (i - 1), none⟩ (.int .u32 (dk[i]! : Int))) := by
  obtain ⟨h1, h2, h3⟩ := h
  have hs : dk.size = d.size := h2.1
  refine ⟨h1.swap hb (by omega) (by omega) q, permIn_trans _ _ _ _ _ h2 (swp_permIn dk a b i (i - 1) (by omega) hib (by omega) (by omega) (by omega)), fun p r hap hpr hr hp hr' => ?_, fun r h1 h2 => by omega⟩
  rw [swp_other dk i (i - 1) r (by omega) (by omega), swp_other dk i (i - 1) p (by omega) (by omega)]
  exact h3 p r hap hpr (by omega)
set_option maxHeartbeats 4000000 in
set_option maxRecDepth 100000 in
theorem partial_any (blk off cap a b : Nat) (d : Array Nat) (w : World) (hH : Holds encU w blk off d) (hbk : blk < w.heap.size) (hab : a < b) (hb : b ≤ d.size) (hsz : d.size < 4611686018427387904) (hB : Sort.Below ltB a b d) :
    Calls Tryz.prog 71 #[.slice (some ⟨blk, off, none⟩) d.size cap, .int .i64 a, .int .i64 b] w fun e w' =>
      ∃ B : Bool, e = .returned (.bool B) ∧ Turned w blk off a b d (fun d' => B = true → SortedIn ltB a b d') w' := by
  have HH := Lib.hid hH
  have HB := Lib.hid hB
  have HS : Hid (ParRel w blk off a b d (a + 1) d w) := ⟨RowAt.start hH, permIn_refl _ _ _, fun p q _ _ _ => by omega⟩
  clear hH hB
  go_enter Tryz.func71, Tryz.ntmps71
  go_wp2
  go_loopw [7, 8] (fun vi vs wr => ∃ (i s : Nat) (dk : Array Nat), vi = .int .i64 i ∧ vs = .int .i64 s ∧ a < i ∧ i ≤ b ∧ s ≤ 5 ∧ Hid (ParRel w blk off a b d i dk wr)) (fun _ vs _ => 5 - (intOf vs).toNat)
  case atStart => exact ⟨a + 1, 0, d, by go_num, rfl, by omega, by omega, by omega, HS⟩
  case round =>
    obtain ⟨i, s, dk, rfl, rfl, hai, hib, hs5, HO⟩ := hrel
    by_cases hs : s < 5
    · have HZ : Hid (dk.size = d.size) := HO.out.2.1.1
      obtain ⟨G, hG⟩ := named dk
      have hcw : ∀ W, RowAt w blk off dk W → ∀ t, t < d.size → W.cell? ⟨blk, off + t, none⟩ = some (.int .u32 (G t : Int)) := fun W hW t ht => by
        rw [hG]; exact hW.cell HH.out hbk HZ.out ht
      have HC := Lib.hid hcw
      have HG := Lib.hid hG
      clear hG hcw
      go_wp2_with fail
      go_loopw [7] (fun vi wr => ∃ x1 : Nat, vi = .int .i64 x1 ∧ i ≤ x1 ∧ x1 ≤ b ∧ Hid (ParRel w blk off a b d x1 dk wr)) (fun vi _ => b - (intOf vi).toNat)
      case atStart => exact ⟨i, rfl, Nat.le_refl _, hib, HO⟩
      case round =>
        obtain ⟨x1, rfl, hx1, hx2, HX⟩ := hrel
        go_upto_region 5 with fail
        go_cut [32] from 17 to 34 (fun v wx => ∃ B, v = .bool B ∧ Hid (B = (decide (x1 < b) && !ltB (G x1) (G (x1 - 1))) ∧ RowAt w blk off dk wx))
        case first =>
          by_cases h2 : x1 < b
          · have hcw1 := HC.out wr HX.out.1
            have hless := fun W => key_less (G x1) (G (x1 - 1)) W
            cases hq : ltB (G x1) (G (x1 - 1))
            · rw [hq] at hless
              have HL := Lib.hid hless
              have HQ := Lib.hid hq
              clear hless hq
              go_quiet (first | (go_at_call 72; refine Calls.quiet_of_same (HL.out _)))
              go_wp2_with fail
              go_meet
              case rel => exact ⟨_, rfl, by rw [HQ.out]; simp [h2], HX.out.1.drewN _⟩
            · rw [hq] at hless
              have HL := Lib.hid hless
              have HQ := Lib.hid hq
              clear hless hq
              go_quiet (first | (go_at_call 72; refine Calls.quiet_of_same (HL.out _)))
              go_wp2_with fail
              go_meet
              case rel => exact ⟨_, rfl, by rw [HQ.out]; simp [h2], HX.out.1.drewN _⟩
          · have t2 : decide ((x1 : Int) < (b : Int)) = false := decide_eq_false (by omega)
            go_quiet (first | (go_at_call 72; refine Calls.quiet_of_same (key_less _ _ _)))
            go_wp2_with fail
            go_meet
            case rel => exact ⟨false, rfl, by simp [h2], HX.out.1.drewN _⟩
        case rest =>
          obtain ⟨B, rfl, HBB⟩ := hcut
          have HN := Lib.hid (HX.out.on HBB.out.2)
          cases B
          · clear HX HBB
            by_cases hxb : x1 = b
            · subst hxb
              go_wp2
              go_ret
              exact ⟨true, rfl, dk, HN.out.1, HN.out.2.1, fun _ => HN.out.2.2⟩
            · by_cases h50 : b - a < 50
              · go_wp2
                go_ret
                exact ⟨false, rfl, dk, HN.out.1, HN.out.2.1, fun h => by cases h⟩
              · have hcw1 := HC.out wc HN.out.1
                have hfw1 : ∀ t, t < d.size → wc.frozen? ⟨blk, off + t, none⟩ = false := fun t ht => HN.out.1.frozen HH.out hbk ht
                have HI := Lib.hid (fun q => HN.out.toIns hbk hb (by omega) (by omega) q)
                go_upto_region 11 with fail
                go_cut [] from 13 to 132 (fun wx => Hid (InsRel w blk off a b d (x1 - 1) (x1 - 1) (swp dk x1 (x1 - 1)) wx))
                case first =>
                  go_region
                  all_goals go_wp2_with fail
                  go_meet
                  case rel =>
                    have := HI.out 1
                    rw [← HG.out, ← HG.out] at this
                    exact this
                case rest =>
                  have HI1 : Hid (InsRel w blk off a b d (x1 - 1) (x1 - 1) (swp dk x1 (x1 - 1)) wc) := hcut
                  clear hcut hcw1 hfw1 HC HG HZ HI HN
                  go_upto_if 61 with fail
                  go_cut [9] from 13 to 132 (fun _ wx => Hid (∃ d2, ParRel w blk off a b d x1 d2 wx))
                  case first =>
                    by_cases hd2 : 2 ≤ x1 - a
                    · go_wp2_with fail
                      go_loopw [9] (fun vj wr => ∃ (j : Nat) (dj : Array Nat), vj = .int .i64 j ∧ a ≤ j ∧ j ≤ x1 - 1 ∧ Hid (InsRel w blk off a b d (x1 - 1) j dj wr)) (fun vj _ => (intOf vj).toNat)
                      case atStart => exact ⟨x1 - 1, _, by congr 1; omega, by omega, Nat.le_refl _, HI1⟩
                      case round =>
                        obtain ⟨j, dj, rfl, haj, hji, HJ⟩ := hrel
                        have OUT : Hid ((j ≤ a ∨ ltB dj[j]! dj[j - 1]! = false) → ∀ q, ∃ d2, ParRel w blk off a b d x1 d2 (wr.drewN q)) := by
                          show _ → ∀ q, _
                          intro h q
                          have h3 := HJ.out.2.2.stop swo_lt h
                          rw [show x1 - 1 + 1 = x1 by omega] at h3
                          exact ⟨dj, HJ.out.1.drewN q, HJ.out.2.1, h3⟩
                        by_cases hj1 : 1 ≤ j
                        · obtain ⟨G, hG⟩ := named dj
                          have hsj : dj.size = d.size := HJ.out.2.1.1
                          have hcw : ∀ t, t < d.size → wr.cell? ⟨blk, off + t, none⟩ = some (.int .u32 (G t : Int)) := fun t ht => by
                            rw [hG]; exact HJ.out.1.cell HH.out hbk hsj ht
                          have hfw : ∀ t, t < d.size → wr.frozen? ⟨blk, off + t, none⟩ = false := fun t ht => HJ.out.1.frozen HH.out hbk ht
                          have HG := Lib.hid hG
                          have HZ := Lib.hid hsj
                          clear hG hsj
                          have hless := fun W => key_less (G j) (G (j - 1)) W
                          cases hq : ltB (G j) (G (j - 1))
                          · rw [hq] at hless
                            have HL := Lib.hid hless
                            have HQ : Hid (ltB dj[j]! dj[j - 1]! = false) := by rw [← HG.out, ← HG.out]; exact hq
                            clear hless hq
                            go_upto_region 16 with fail
                            go_quiet (first | (go_at_call 72; refine Calls.quiet_of_same (HL.out _)))
                            go_wp2_with fail
                            go_meet
                            case rel => exact OUT.out (Or.inr HQ.out) _
                          · rw [hq] at hless
                            have HL := Lib.hid hless
                            have HQ : Hid (ltB dj[j]! dj[j - 1]! = true) := by rw [← HG.out, ← HG.out]; exact hq
                            have hja : a < j := by
                              rcases HB.out with h0 | h0
                              · omega
                              · have hperm := permIn_all d dj a b (fun x => ltB x d[a - 1]! = false) hb HJ.out.2.1 h0
                                have hz : ¬ j = a := by
                                  intro he
                                  subst he
                                  have h1 := hperm j (Nat.le_refl _) hab
                                  have h2 := HJ.out.2.1.2.1 (j - 1) (Or.inl (by omega))
                                  rw [← h2, HQ.out] at h1
                                  cases h1
                                omega
                            clear hless hq
                            go_upto_region 16 with fail
                            go_quiet (first | (go_at_call 72; refine Calls.quiet_of_same (HL.out _)))
                            go_wp2_with fail
                            go_region
                            all_goals go_wp2
                            go_roundw
                            case rel =>
                              refine ⟨j - 1, swp dj j (j - 1), by congr 1; omega, by omega, by omega, ?_, ?_, ?_⟩
                              · rw [HG.out, HG.out]
                                exact HJ.out.1.swap hbk (by rw [HZ.out]; omega) (by rw [HZ.out]; omega) _
                              · exact permIn_trans _ _ _ _ _ HJ.out.2.1 (swp_permIn _ _ _ _ _ (by omega) (by omega) (by omega) (by omega) (by rw [HZ.out]; exact hb))
                              · have h3 := HJ.out.2.2
                                have h4 := HQ.out
                                obtain ⟨k, rfl⟩ : ∃ k, j = k + 1 := ⟨j - 1, by omega⟩
                                exact h3.step h4 (by omega) (by rw [HZ.out]; omega)
                            case measure => (simp [intOf] <;> omega)
                        · go_wp2_with fail
                          go_meet
                          case rel => exact OUT.out (Or.inl (by omega)) 0
                    · go_wp2_with fail
                      go_meet
                      case rel => exact ⟨_, HI1.out.1, HI1.out.2.1, fun p q hp hpq hq => by omega⟩
                  case rest =>
                    obtain ⟨d2, h2⟩ := hcut
                    have H2 := Lib.hid h2
                    clear h2
                    go_upto_if 98 with fail
                    by_cases hd3 : 2 ≤ b - x1
                    · go_wp2_with fail
                      go_loopw [10] (fun vj wr => ∃ (j : Nat) (du : Array Nat), vj = .int .i64 j ∧ x1 + 1 ≤ j ∧ j ≤ b ∧ Hid (ParRel w blk off a b d x1 du wr)) (fun vj _ => b - (intOf vj).toNat)
                      case atStart => exact ⟨x1 + 1, d2, by go_num, Nat.le_refl _, by omega, H2⟩
                      case round =>
                        obtain ⟨j, du, rfl, hj1, hj2, HU⟩ := hrel
                        by_cases hjb : j < b
                        · obtain ⟨G, hG⟩ := named du
                          have hsj : du.size = d.size := HU.out.2.1.1
                          have hcw : ∀ t, t < d.size → wr.cell? ⟨blk, off + t, none⟩ = some (.int .u32 (G t : Int)) := fun t ht => by
                            rw [hG]; exact HU.out.1.cell HH.out hbk hsj ht
                          have hfw : ∀ t, t < d.size → wr.frozen? ⟨blk, off + t, none⟩ = false := fun t ht => HU.out.1.frozen HH.out hbk ht
                          have HG := Lib.hid hG
                          clear hG hsj
                          have hless := fun W => key_less (G j) (G (j - 1)) W
                          cases hq : ltB (G j) (G (j - 1))
                          · rw [hq] at hless
                            have HL := Lib.hid hless
                            clear hless hq
                            go_upto_region 22 with fail
                            go_quiet (first | (go_at_call 72; refine Calls.quiet_of_same (HL.out _)))
                            go_wp2
                            go_roundw
                            case rel => exact ⟨x1, s + 1, _, rfl, by go_num, by omega, by omega, by omega, HU.out.on (HU.out.1.drewN _)⟩
                            case measure => (simp [intOf] <;> omega)
                          · rw [hq] at hless
                            have HL := Lib.hid hless
                            clear hless hq
                            go_upto_region 22 with fail
                            go_quiet (first | (go_at_call 72; refine Calls.quiet_of_same (HL.out _)))
                            go_wp2_with fail
                            go_region
                            all_goals go_wp2
                            go_roundw
                            case rel =>
                              refine ⟨j + 1, swp du j (j - 1), by go_num, by omega, by omega, ?_⟩
                              rw [HG.out, HG.out]
                              exact HU.out.swap hbk hb (by omega) (by omega) hjb _
                            case measure => (simp [intOf] <;> omega)
                        · go_wp2
                          go_roundw
                          case rel => exact ⟨x1, s + 1, _, rfl, by go_num, by omega, by omega, by omega, HU.out⟩
                          case measure => (simp [intOf] <;> omega)
                    · go_wp2
                      go_roundw
                      case rel => exact ⟨x1, s + 1, _, rfl, by go_num, by omega, by omega, by omega, H2.out⟩
                      case measure => (simp [intOf] <;> omega)
          · have HE : Hid (ltB dk[x1]! dk[x1 - 1]! = false ∧ x1 < b) := by
              have hq := HBB.out.1.symm
              rw [Bool.and_eq_true, decide_eq_true_eq] at hq
              have h3 := hq.2
              rw [HG.out, HG.out] at h3
              exact ⟨by simpa using h3, hq.1⟩
            have hx3 := HE.out.2
            go_wp2
            go_roundw
            case rel => exact ⟨x1 + 1, by go_num, by omega, by omega, HN.out.snoc HE.out.1⟩
            case measure => (simp [intOf] <;> omega)
    · go_wp2
      go_ret
      exact ⟨false, rfl, dk, HO.out.1, HO.out.2.1, fun h => by cases h⟩
end Go.Proofs.YtceejjgmepaonaaGreatDoor.Gk
/- What holds at the head of the loop of the library's sort of keys, and how its parts come together. -/
namespace Go.Proofs.YtceejjgmepaonaaGreatDoor.Gk
open Go.RowKit
open Go.Sort hiding Below
theorem ltB_true {x y : Nat} : ltB x y = true ↔ x < y := by unfold ltB; simp
theorem ltB_false {x y : Nat} : ltB x y = false ↔ y ≤ x := by unfold ltB; simp
theorem sorted_two {a m b : Nat} {R : Array Nat} (h1 : SortedIn ltB a m R) (h2 : SortedIn ltB (m + 1) b R) (h3 : ∀ t, a ≤ t → t < m → ltB R[t]! R[m]! = true) (h4 : ∀ t, m < t → t < b → ltB R[t]! R[m]! = false) : SortedIn ltB a b R := by
  intro i j hi hij hj
  rw [ltB_false]
  by_cases hjm : j < m
  · exact ltB_false.1 (h1 i j hi hij hjm)
  · by_cases hjm' : j = m
    · subst hjm'
      exact Nat.le_of_lt (ltB_true.1 (h3 i hi hij))
    · have hr := ltB_false.1 (h4 j (by omega) hj)
      by_cases him : i < m
      · have hl := ltB_true.1 (h3 i hi him)
        omega
      · by_cases him' : i = m
        · subst him'; exact hr
        · exact ltB_false.1 (h2 i j (by omega) hij hj)
/-- From a state of the loop: what is sorted between its ends is sorted between the first ones. -/
def Left (a0 b0 : Nat) (d0 : Array Nat) (a b : Nat) (dk : Array Nat) : Prop :=
  dk.size = d0.size ∧ Sort.Below ltB a b dk ∧ ∀ R, PermIn a b dk R → SortedIn ltB a b R → PermIn a0 b0 d0 R ∧ SortedIn ltB a0 b0 R
theorem Left.start {a b : Nat} {d : Array Nat} (h : Sort.Below ltB a b d) : Left a b d a b d := ⟨rfl, h, fun _ h1 h2 => ⟨h1, h2⟩⟩
theorem Left.perm {a0 b0 a b : Nat} {d0 dk d1 : Array Nat} (h : Left a0 b0 d0 a b dk) (hb : b ≤ d0.size) (hp : PermIn a b dk d1) : Left a0 b0 d0 a b d1 :=
  ⟨hp.1.trans h.1, h.2.1.perm (by rw [h.1]; exact hb) hp, fun R h1 h2 => h.2.2 R (permIn_trans _ _ _ _ _ hp h1) h2⟩
theorem Left.eq {a0 b0 a b m P : Nat} {d0 dk d4 : Array Nat} (h : Left a0 b0 d0 a b dk) (hb : b ≤ d0.size) (ha : 0 < a) (hP : ltB dk[a - 1]! P = false) (ham : a < m) (hmb : m ≤ b) (hp : PermIn a b dk d4)
    (h1 : ∀ t, a ≤ t → t < m → ltB P d4[t]! = false) (h2 : ∀ t, m ≤ t → t < b → ltB P d4[t]! = true) : Left a0 b0 d0 m b d4 := by
  obtain ⟨hz, hB, hc⟩ := h
  have hz4 : d4.size = d0.size := hp.1.trans hz
  have hge : ∀ t, a ≤ t → t < b → P ≤ d4[t]! := by
    refine permIn_all dk d4 a b (fun x => P ≤ x) (by omega) hp fun i hi hi' => ?_
    rcases hB with h0 | hB
    · omega
    · have := ltB_false.1 (hB i hi hi')
      have := ltB_false.1 hP
      omega
  refine ⟨hz4, Or.inr fun i hi hi' => ?_, fun R hR hS => hc R (permIn_trans _ _ _ a b hp (permIn_mono d4 R m b a b (by omega) (Nat.le_refl _) (by omega) hR)) fun i j hi hij hj => ?_⟩
  · have := ltB_true.1 (h2 i hi hi')
    have := ltB_false.1 (h1 (m - 1) (by omega) (by omega))
    rw [ltB_false]; omega
  · have hgt : ∀ t, m ≤ t → t < b → P < R[t]! := permIn_all d4 R m b (fun x => P < x) (by omega) hR fun i hi hi' => ltB_true.1 (h2 i hi hi')
    have hlo : ∀ t, a ≤ t → t < m → R[t]! = P := fun t ht htm => by
      rw [hR.2.1 t (Or.inl htm)]
      have := hge t ht (by omega)
      have := ltB_false.1 (h1 t ht htm)
      omega
    by_cases him : i < m
    · rw [ltB_false, hlo i hi him]
      by_cases hjm : j < m
      · rw [hlo j (by omega) hjm]; omega
      · exact Nat.le_of_lt (hgt j (by omega) hj)
    · exact hS i j (by omega) hij hj
theorem Left.first {a0 b0 a b m : Nat} {d0 dk d4 L : Array Nat} (h : Left a0 b0 d0 a b dk) (hb : b ≤ d0.size) (ham : a ≤ m) (hmb : m < b) (hp : PermIn a b dk d4)
    (h1 : ∀ t, a ≤ t → t < m → ltB d4[t]! d4[m]! = true) (h2 : ∀ t, m < t → t < b → ltB d4[t]! d4[m]! = false) (hL : PermIn a m d4 L) (hS : SortedIn ltB a m L) : Left a0 b0 d0 (m + 1) b L := by
  obtain ⟨hz, hB, hc⟩ := h
  have hz4 : d4.size = d0.size := hp.1.trans hz
  have hzL : L.size = d0.size := hL.1.trans hz4
  have e1 : ∀ t, m ≤ t → L[t]! = d4[t]! := fun t ht => hL.2.1 t (Or.inr ht)
  refine ⟨hzL, Or.inr fun i hi hi' => ?_, fun R hR hSR => hc R (permIn_trans _ _ _ a b hp (permIn_trans _ _ _ a b (permIn_mono d4 L a m a b (Nat.le_refl _) (by omega) (by omega) hL) (permIn_mono L R (m + 1) b a b (by omega) (Nat.le_refl _) (by omega) hR))) ?_⟩
  · rw [Nat.add_sub_cancel, e1 i (by omega), e1 m (Nat.le_refl _)]
    exact h2 i (by omega) hi'
  · have e2 : ∀ t, t ≤ m → R[t]! = L[t]! := fun t ht => hR.2.1 t (Or.inl (by omega))
    have hm : R[m]! = d4[m]! := (e2 m (Nat.le_refl _)).trans (e1 m (Nat.le_refl _))
    refine sorted_two (fun i j hi hij hj => ?_) hSR (fun t ht htm => ?_) (fun t ht htb => ?_)
    · rw [e2 i (by omega), e2 j (by omega)]; exact hS i j hi hij hj
    · rw [hm, e2 t (by omega)]
      exact permIn_all d4 L a m (fun x => ltB x d4[m]! = true) (by omega) hL h1 t ht htm
    · rw [hm]
      exact permIn_all L R (m + 1) b (fun x => ltB x d4[m]! = false) (by omega) hR (fun i hi hi' => by rw [e1 i (by omega)]; exact h2 i (by omega) hi') t (by omega) htb
theorem Left.second {a0 b0 a b m : Nat} {d0 dk d4 L : Array Nat} (h : Left a0 b0 d0 a b dk) (hb : b ≤ d0.size) (ham : a ≤ m) (hmb : m < b) (hp : PermIn a b dk d4)
    (h1 : ∀ t, a ≤ t → t < m → ltB d4[t]! d4[m]! = true) (h2 : ∀ t, m < t → t < b → ltB d4[t]! d4[m]! = false) (hL : PermIn (m + 1) b d4 L) (hS : SortedIn ltB (m + 1) b L) : Left a0 b0 d0 a m L := by
  obtain ⟨hz, hB, hc⟩ := h
  have hz4 : d4.size = d0.size := hp.1.trans hz
  have hzL : L.size = d0.size := hL.1.trans hz4
  have e1 : ∀ t, t ≤ m → L[t]! = d4[t]! := fun t ht => hL.2.1 t (Or.inl (by omega))
  have hB4 : Sort.Below ltB a b d4 := hB.perm (by omega) hp
  refine ⟨hzL, ?_, fun R hR hSR => hc R (permIn_trans _ _ _ a b hp (permIn_trans _ _ _ a b (permIn_mono d4 L (m + 1) b a b (by omega) (Nat.le_refl _) (by omega) hL) (permIn_mono L R a m a b (Nat.le_refl _) (by omega) (by omega) hR))) ?_⟩
  · rcases hB4 with h0 | hB4
    · exact Or.inl h0
    · refine Or.inr fun i hi hi' => ?_
      rw [e1 i (by omega), e1 (a - 1) (by omega)]
      exact hB4 i hi (by omega)
  · have e2 : ∀ t, m ≤ t → R[t]! = L[t]! := fun t ht => hR.2.1 t (Or.inr ht)
    have hm : R[m]! = d4[m]! := (e2 m (Nat.le_refl _)).trans (e1 m (Nat.le_refl _))
    refine sorted_two hSR (fun i j hi hij hj => ?_) (fun t ht htm => ?_) (fun t ht htb => ?_)
    · rw [e2 i (by omega), e2 j (by omega)]; exact hS i j hi hij hj
    · rw [hm]
      exact permIn_all L R a m (fun x => ltB x d4[m]! = true) (by omega) hR (fun i hi hi' => by rw [e1 i (by omega)]; exact h1 i hi hi') t ht htm
    · rw [hm, e2 t (by omega)]
      exact permIn_all d4 L (m + 1) b (fun x => ltB x d4[m]! = false) (by omega) hL (fun i hi hi' => h2 i (by omega) hi') t (by omega) htb
theorem Left.below1 {a0 b0 a b m : Nat} {d0 dk d4 : Array Nat} (h : Left a0 b0 d0 a b dk) (hb : b ≤ d0.size) (hmb : m < b) (hp : PermIn a b dk d4) : Sort.Below ltB a m d4 :=
  (h.2.1.perm (by rw [h.1]; exact hb) hp).mono (by omega)
/-- The loop's state: the row is dk, and what is left is to sort it from a to b. -/
def LoopRel (w0 : World) (blk off a0 b0 : Nat) (d0 : Array Nat) (a b : Nat) (dk : Array Nat) (w : World) : Prop := RowAt w0 blk off dk w ∧ Left a0 b0 d0 a b dk
theorem LoopRel.step {w0 w w' : World} {blk off a0 b0 a b : Nat} {d0 dk d1 : Array Nat} (h : LoopRel w0 blk off a0 b0 d0 a b dk w) (hbk : blk < w0.heap.size) (hb : b ≤ d0.size) (hr : RowAt w blk off d1 w') (hp : PermIn a b dk d1) :
    LoopRel w0 blk off a0 b0 d0 a b d1 w' := ⟨h.1.trans hr hbk hp.1, h.2.perm hb hp⟩
theorem LoopRel.holds {w0 w : World} {blk off a0 b0 a b : Nat} {d0 dk : Array Nat} (h : LoopRel w0 blk off a0 b0 d0 a b dk w) (hH : Holds encU w0 blk off d0) (hbk : blk < w0.heap.size) : Holds encU w blk off dk := h.1.holds hH hbk h.2.1
theorem LoopRel.size {w0 w : World} {blk off a0 b0 a b : Nat} {d0 dk : Array Nat} (h : LoopRel w0 blk off a0 b0 d0 a b dk w) (hbk : blk < w0.heap.size) : blk < w.heap.size := Nat.lt_of_lt_of_le hbk h.1.size
theorem LoopRel.sorted {w0 w w' : World} {blk off a0 b0 a b : Nat} {d0 dk d1 : Array Nat} (h : LoopRel w0 blk off a0 b0 d0 a b dk w) (hbk : blk < w0.heap.size) (hr : RowAt w blk off d1 w') (hp : PermIn a b dk d1) (hs : SortedIn ltB a b d1) :
    Turned w0 blk off a0 b0 d0 (SortedIn ltB a0 b0) w' :=
  ⟨d1, h.1.trans hr hbk hp.1, (h.2.2.2 d1 hp hs).1, (h.2.2.2 d1 hp hs).2⟩
end Go.Proofs.YtceejjgmepaonaaGreatDoor.Gk
