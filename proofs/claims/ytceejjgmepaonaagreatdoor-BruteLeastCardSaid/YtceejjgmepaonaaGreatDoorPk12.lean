/- Texts that the laws of this seat stand on, part 12. -/
import Derived.Test.YtceejjgmepaonaaGreatDoorPk11
import Derived.BigRegion
import Derived.Deep.CutRange
import Derived.Deep.DeepFit
/- What holds of a range of keys while the library parts it in two. -/
namespace Go.Proofs.YtceejjgmepaonaaGreatDoor.Gk
open Go.RowKit
open Go.Sort hiding Below
def pLt (P x : Nat) : Bool := ltB x P
def pLe (P x : Nat) : Bool := !ltB P x
/-- Left of i all go with p, right of j none does; what parts them lies at a. -/
def PartRel (w0 : World) (blk off a b : Nat) (p : Nat → Bool) (d : Array Nat) (P i j : Nat) (dk : Array Nat) (w : World) : Prop :=
  RowAt w0 blk off dk w ∧ PermIn a b d dk ∧ dk[a]! = P ∧ (∀ t, a < t → t < i → p dk[t]! = true) ∧ (∀ t, j < t → t < b → p dk[t]! = false)
theorem PartRel.on {w0 w w' : World} {blk off a b : Nat} {p : Nat → Bool} {d dk : Array Nat} {P i j : Nat} (h : PartRel w0 blk off a b p d P i j dk w) (hr : RowAt w0 blk off dk w') : PartRel w0 blk off a b p d P i j dk w' := ⟨hr, h.2⟩
theorem PartRel.up {w0 w : World} {blk off a b : Nat} {p : Nat → Bool} {d dk : Array Nat} {P i j : Nat} (h : PartRel w0 blk off a b p d P i j dk w) (hp : p dk[i]! = true) : PartRel w0 blk off a b p d P (i + 1) j dk w := by
  obtain ⟨h1, h2, h3, h4, h5⟩ := h
  refine ⟨h1, h2, h3, fun t ht hti => ?_, h5⟩
  by_cases h : t = i
  · rw [h]; exact hp
  · exact h4 t ht (by omega)
theorem PartRel.down {w0 w : World} {blk off a b : Nat} {p : Nat → Bool} {d dk : Array Nat} {P i j : Nat} (h : PartRel w0 blk off a b p d P i j dk w) (hp : p dk[j]! = false) : PartRel w0 blk off a b p d P i (j - 1) dk w := by
  obtain ⟨h1, h2, h3, h4, h5⟩ := h
  refine ⟨h1, h2, h3, h4, fun t ht htb => ?_⟩
  by_cases h : t = j
  · rw [h]; exact hp
  · exact h5 t (by omega) htb
theorem PartRel.swap {w0 w : World} {blk off a b : Nat} {p : Nat → Bool} {d dk : Array Nat} {P i j : Nat} (h : PartRel w0 blk off a b p d P i j dk w) (hb : blk < w0.heap.size) (hbd : b ≤ d.size) (hai : a < i) (hij : i < j) (hjb : j < b)
    (hi : p dk[i]! = false) (hj : p dk[j]! = true) (q : Nat) :
    PartRel w0 blk off a b p d P (i + 1) (j - 1) (swp dk i j) (((w.drewN q).setCell ⟨blk, off + i, none⟩ (.int .u32 (dk[j]! : Int))).setCell ⟨blk, off + j, none⟩ (.int .u32 (dk[i]! : Int))) := by
  obtain ⟨h1, h2, h3, h4, h5⟩ := h
  have hs : dk.size = d.size := h2.1
  refine ⟨h1.swap hb (by omega) (by omega) q, permIn_trans _ _ _ _ _ h2 (swp_permIn dk a b i j (by omega) (by omega) (by omega) hjb (by omega)), ?_, fun t ht hti => ?_, fun t ht htb => ?_⟩
  · rw [swp_other dk i j a (by omega) (by omega)]; exact h3
  · by_cases h : t = i
    · rw [h, swp_left dk i j (by omega) (by omega)]; exact hj
    · rw [swp_other dk i j t h (by omega)]; exact h4 t ht (by omega)
  · by_cases h : t = j
    · rw [h, swp_right dk i j (by omega)]; exact hi
    · rw [swp_other dk i j t (by omega) h]; exact h5 t (by omega) htb
/-- The pivot goes to the head. -/
theorem PartRel.start {w0 w : World} {blk off a b : Nat} {p : Nat → Bool} {d : Array Nat} {v : Nat} (h : RowAt w0 blk off d w) (hb : blk < w0.heap.size) (hbd : b ≤ d.size) (hav : a ≤ v) (hvb : v < b) (q : Nat) :
    PartRel w0 blk off a b p d d[v]! (a + 1) (b - 1) (swp d a v) (((w.drewN q).setCell ⟨blk, off + a, none⟩ (.int .u32 (d[v]! : Int))).setCell ⟨blk, off + v, none⟩ (.int .u32 (d[a]! : Int))) := by
  refine ⟨h.swap hb (by omega) (by omega) q, swp_permIn d a b a v (Nat.le_refl _) (by omega) hav hvb hbd, ?_, fun t ht hti => by omega, fun t ht htb => by omega⟩
  by_cases hv : a = v
  · subst hv; rw [swp_right d a a (by omega)]
  · exact swp_left d a v (by omega) hv
/-- What partitionOrdered leaves. -/
def PartDone (w0 : World) (blk off a b : Nat) (d : Array Nat) (m : Nat) (w : World) : Prop := ∃ dk, RowAt w0 blk off dk w ∧ PermIn a b d dk ∧ (∀ t, a ≤ t → t < m → ltB dk[t]! dk[m]! = true) ∧ (∀ t, m < t → t < b → ltB dk[t]! dk[m]! = false)
theorem PartRel.done {w0 w : World} {blk off a b : Nat} {d dk : Array Nat} {P i j : Nat} (h : PartRel w0 blk off a b (pLt P) d P i j dk w) (hb : blk < w0.heap.size) (hbd : b ≤ d.size) (hai : a < i) (hij : i = j + 1) (hjb : j < b) (q : Nat) :
    PartDone w0 blk off a b d j (((w.drewN q).setCell ⟨blk, off + j, none⟩ (.int .u32 (dk[a]! : Int))).setCell ⟨blk, off + a, none⟩ (.int .u32 (dk[j]! : Int))) := by
  obtain ⟨h1, h2, h3, h4, h5⟩ := h
  have hs : dk.size = d.size := h2.1
  have hm : (swp dk j a)[j]! = P := by
    by_cases hja : j = a
    · subst hja; rw [swp_right dk j j (by omega)]; exact h3
    · rw [swp_left dk j a (by omega) hja]; exact h3
  refine ⟨swp dk j a, h1.swap hb (by omega) (by omega) q, permIn_trans _ _ _ _ _ h2 (swp_permIn dk a b j a (by omega) hjb (Nat.le_refl _) (by omega) (by omega)), fun t ht htj => ?_, fun t ht htb => ?_⟩
  · rw [hm]
    by_cases hta : t = a
    · rw [hta, swp_right dk j a (by omega)]; exact h4 j (by omega) (by omega)
    · rw [swp_other dk j a t (by omega) hta]; exact h4 t (by omega) (by omega)
  · rw [hm, swp_other dk j a t (by omega) (by omega)]
    exact h5 t ht htb
/-- What partitionEqualOrdered leaves: left of m all are like the pivot, from m on all are above it. -/
def EqDone (w0 : World) (blk off a b : Nat) (d : Array Nat) (P m : Nat) (w : World) : Prop := ∃ dk, RowAt w0 blk off dk w ∧ PermIn a b d dk ∧ (∀ t, a ≤ t → t < m → ltB P dk[t]! = false) ∧ (∀ t, m ≤ t → t < b → ltB P dk[t]! = true)
theorem PartRel.eqDone {w0 w : World} {blk off a b : Nat} {d dk : Array Nat} {P i j : Nat} (h : PartRel w0 blk off a b (pLe P) d P i j dk w) (hij : i = j + 1) : EqDone w0 blk off a b d P i w := by
  obtain ⟨h1, h2, h3, h4, h5⟩ := h
  refine ⟨dk, h1, h2, fun t ht hti => ?_, fun t ht htb => ?_⟩
  · by_cases hta : t = a
    · rw [hta, h3]; exact swo_lt.irrefl _
    · have := h4 t (by omega) hti
      unfold pLe at this
      simpa using this
  · have := h5 t (by omega) htb
    unfold pLe at this
    simpa using this
end Go.Proofs.YtceejjgmepaonaaGreatDoor.Gk
/- The library's two ways to part a range of keys in two. -/
namespace Go.Proofs.YtceejjgmepaonaaGreatDoor.Gk
open Go.RowKit
open Go.Sort hiding Below
set_option maxHeartbeats 2000000 in
set_option maxRecDepth 100000 in
theorem partEq_any (blk off cap a b v : Nat) (d : Array Nat) (w : World) (hH : Holds encU w blk off d) (hbk : blk < w.heap.size) (hav : a ≤ v) (hvb : v < b) (hb : b ≤ d.size) (hsz : d.size < 4611686018427387904) :
    Calls Tryz.prog 73 #[.slice (some ⟨blk, off, none⟩) d.size cap, .int .i64 a, .int .i64 b, .int .i64 v] w fun e w' =>
      ∃ m : Nat, e = .returned (.int .i64 m) ∧ a < m ∧ m ≤ b ∧ EqDone w blk off a b d d[v]! m w' := by
  have HH := Lib.hid hH
  obtain ⟨P, hP⟩ : ∃ P, P = d[v]! := ⟨_, rfl⟩
  have HS : Hid (∀ q, PartRel w blk off a b (pLe P) d P (a + 1) (b - 1) (swp d a v) (((w.drewN q).setCell ⟨blk, off + a, none⟩ (.int .u32 (d[v]! : Int))).setCell ⟨blk, off + v, none⟩ (.int .u32 (d[a]! : Int)))) := by
    rw [hP]; exact PartRel.start (RowAt.start hH) hbk hb hav hvb
  obtain ⟨G0, hG0⟩ := named d
  have hcw : ∀ t, t < d.size → w.cell? ⟨blk, off + t, none⟩ = some (.int .u32 (G0 t : Int)) := fun t ht => by
    rw [hG0]; exact (hH t ht).1
  have hfw : ∀ t, t < d.size → w.frozen? ⟨blk, off + t, none⟩ = false := fun t ht => (hH t ht).2
  have HG0 := Lib.hid hG0
  have HP := Lib.hid hP
  clear hH hG0 hP
  go_enter Tryz.func73, Tryz.ntmps73
  go_upto_region 1 with fail
  go_cut [] from 11 (fun wx => Hid (PartRel w blk off a b (pLe P) d P (a + 1) (b - 1) (swp d a v) wx))
  case first =>
    by_cases hva : v = a
    · subst hva
      go_region
      all_goals go_wp2_with fail
      go_meet
      case rel =>
        have := HS.out 1
        rw [← HG0.out] at this
        exact this
    · go_region
      all_goals go_wp2_with fail
      go_meet
      case rel =>
        have := HS.out 1
        rw [← HG0.out, ← HG0.out] at this
        exact this
  case rest =>
    have HW0 : Hid (PartRel w blk off a b (pLe P) d P (a + 1) (b - 1) (swp d a v) wc) := hcut
    clear hcut hcw hfw HS
    go_wp2_with fail
    go_loopw [9, 10] (fun vi vj wr => ∃ (i j : Nat) (dk : Array Nat), vi = .int .i64 i ∧ vj = .int .i64 j ∧ a < i ∧ i ≤ j + 1 ∧ j < b ∧ Hid (PartRel w blk off a b (pLe P) d P i j dk wr)) (fun vi vj _ => (intOf vj).toNat + 1 - (intOf vi).toNat)
    case atStart => exact ⟨a + 1, b - 1, swp d a v, by go_num, by congr 1; omega, by omega, by omega, by omega, HW0⟩
    case round =>
      obtain ⟨i, j, dk, rfl, rfl, hi1, hi2, hj1, HM⟩ := hrel
      have HZ : Hid (dk.size = d.size) := HM.out.2.1.1
      obtain ⟨G, hG⟩ := named dk
      have hcw : ∀ W, RowAt w blk off dk W → ∀ t, t < d.size → W.cell? ⟨blk, off + t, none⟩ = some (.int .u32 (G t : Int)) := fun W hW t ht => by
        rw [hG]; exact hW.cell HH.out hbk HZ.out ht
      have HC := Lib.hid hcw
      have HG := Lib.hid hG
      clear hG hcw
      go_wp2_with fail
      go_loopw [9] (fun vi wr => ∃ x1 : Nat, vi = .int .i64 x1 ∧ i ≤ x1 ∧ x1 ≤ j + 1 ∧ Hid (PartRel w blk off a b (pLe P) d P x1 j dk wr)) (fun vi _ => j + 1 - (intOf vi).toNat)
      case atStart => exact ⟨i, rfl, by omega, by omega, HM⟩
      case round =>
        obtain ⟨x1, rfl, hx1, hx2, HX⟩ := hrel
        go_upto_region 3 with fail
        go_cut [43] from 29 to 45 (fun v wx => ∃ B, v = .bool B ∧ Hid (B = (decide (x1 ≤ j) && (!ltB (G a) (G x1))) ∧ RowAt w blk off dk wx))
        case first =>
          by_cases h2 : x1 ≤ j
          · have hcw1 := HC.out wr HX.out.1
            have hless := fun W => key_less (G a) (G x1) W
            cases hq : ltB (G a) (G x1)
            · rw [hq] at hless
              have HL := Lib.hid hless
              have HQ := Lib.hid hq
              clear hless hq
              go_quiet (first | (go_at_call 72; refine Calls.quiet_of_same (HL.out _)))
              go_wp2_with fail
              go_meet
              case rel => exact ⟨_, rfl, by rw [HQ.out]; simp [h2], HX.out.1.drewN _⟩
            · rw [hq] at hless
              have HL := Lib.hid hless
              have HQ := Lib.hid hq
              clear hless hq
              go_quiet (first | (go_at_call 72; refine Calls.quiet_of_same (HL.out _)))
              go_wp2_with fail
              go_meet
              case rel => exact ⟨_, rfl, by rw [HQ.out]; simp [h2], HX.out.1.drewN _⟩
          · have t2 : decide ((x1 : Int) ≤ (j : Int)) = false := decide_eq_false (by omega)
            go_quiet (first | (go_at_call 72; refine Calls.quiet_of_same (key_less _ _ _)))
            go_wp2_with fail
            go_meet
            case rel => exact ⟨false, rfl, by simp [h2], HX.out.1.drewN _⟩
        case rest =>
          obtain ⟨B, rfl, HB⟩ := hcut
          have HN := Lib.hid (HX.out.on HB.out.2)
          cases B
          · have HE : Hid (¬ x1 ≤ j ∨ pLe P dk[x1]! = false) := by
              show _ ∨ _
              by_cases h2 : x1 ≤ j
              · have hq := HB.out.1
                simp only [h2, decide_true, Bool.true_and] at hq
                refine Or.inr ?_
                rw [HG.out, HG.out, HX.out.2.2.1] at hq
                unfold pLe
                simpa using hq.symm
              · exact Or.inl h2
            clear HX HB
            have HIE := HE
            obtain ⟨i1, hi1e⟩ : ∃ i1, i1 = x1 := ⟨_, rfl⟩
            subst hi1e
            have HN1 := HN
            clear HE HN
            have hi1' := hx1
            have hi2' := hx2
            clear hx1 hx2
            go_wp2_with fail
            go_loopw [10] (fun vi wr => ∃ x1 : Nat, vi = .int .i64 x1 ∧ i1 ≤ x1 + 1 ∧ x1 ≤ j ∧ Hid (PartRel w blk off a b (pLe P) d P i1 x1 dk wr)) (fun vi _ => (intOf vi).toNat)
            case atStart => exact ⟨j, rfl, by omega, by omega, HN1⟩
            case round =>
              obtain ⟨x1, rfl, hx1, hx2, HX⟩ := hrel
              go_upto_region 5 with fail
              go_cut [59] from 46 to 61 (fun v wx => ∃ B, v = .bool B ∧ Hid (B = (decide (i1 ≤ x1) && (ltB (G a) (G x1))) ∧ RowAt w blk off dk wx))
              case first =>
                by_cases h2 : i1 ≤ x1
                · have hcw1 := HC.out wr HX.out.1
                  have hless := fun W => key_less (G a) (G x1) W
                  cases hq : ltB (G a) (G x1)
                  · rw [hq] at hless
                    have HL := Lib.hid hless
                    have HQ := Lib.hid hq
                    clear hless hq
                    go_quiet (first | (go_at_call 72; refine Calls.quiet_of_same (HL.out _)))
                    go_wp2_with fail
                    go_meet
                    case rel => exact ⟨_, rfl, by rw [HQ.out]; simp [h2], HX.out.1.drewN _⟩
                  · rw [hq] at hless
                    have HL := Lib.hid hless
                    have HQ := Lib.hid hq
                    clear hless hq
                    go_quiet (first | (go_at_call 72; refine Calls.quiet_of_same (HL.out _)))
                    go_wp2_with fail
                    go_meet
                    case rel => exact ⟨_, rfl, by rw [HQ.out]; simp [h2], HX.out.1.drewN _⟩
                · have t2 : decide ((i1 : Int) ≤ (x1 : Int)) = false := decide_eq_false (by omega)
                  go_quiet (first | (go_at_call 72; refine Calls.quiet_of_same (key_less _ _ _)))
                  go_wp2_with fail
                  go_meet
                  case rel => exact ⟨false, rfl, by simp [h2], HX.out.1.drewN _⟩
              case rest =>
                obtain ⟨B, rfl, HB⟩ := hcut
                have HN := Lib.hid (HX.out.on HB.out.2)
                cases B
                · have HE : Hid (¬ i1 ≤ x1 ∨ pLe P dk[x1]! = true) := by
                    show _ ∨ _
                    by_cases h2 : i1 ≤ x1
                    · have hq := HB.out.1
                      simp only [h2, decide_true, Bool.true_and] at hq
                      refine Or.inr ?_
                      rw [HG.out, HG.out, HX.out.2.2.1] at hq
                      unfold pLe
                      simpa using hq.symm
                    · exact Or.inl h2
                  clear HX HB
                  have HJE := HE
                  have HN2 := HN
                  by_cases hgt : x1 < i1
                  · have hij : i1 = x1 + 1 := by omega
                    have HF := Lib.hid (HN2.out.eqDone hij)
                    go_wp2
                    go_ret
                    exact ⟨i1, rfl, by omega, by omega, by rw [← HP.out]; exact HF.out⟩
                  · have HI : Hid (pLe P dk[i1]! = false) := by
                      rcases HIE.out with h | h
                      · exact absurd (show i1 ≤ j by omega) h
                      · exact h
                    have HJ : Hid (pLe P dk[x1]! = true) := by
                      rcases HJE.out with h | h
                      · exact absurd (show i1 ≤ x1 by omega) h
                      · exact h
                    have hne : i1 ≠ x1 := by
                      intro h
                      have := HI.out
                      rw [h, HJ.out] at this
                      cases this
                    have hcw1 := HC.out _ HN2.out.1
                    have hfw1 : ∀ t, t < d.size → wc.frozen? ⟨blk, off + t, none⟩ = false := fun t ht => HN2.out.1.frozen HH.out hbk ht
                    have HW := Lib.hid (fun q => HN2.out.swap hbk hb (by omega) (by omega) (by omega) HI.out HJ.out q)
                    go_wp2
                    go_region
                    all_goals go_wp2
                    go_roundw
                    case rel =>
                      refine ⟨i1 + 1, x1 - 1, swp dk i1 x1, by go_num, by congr 1; omega, by omega, by omega, by omega, ?_⟩
                      simp only [HG.out]
                      exact HW.out 1
                    case measure => (simp [intOf] <;> omega)
                · have HE : Hid (pLe P dk[x1]! = false ∧ i1 ≤ x1) := by
                    have hq := HB.out.1.symm
                    rw [Bool.and_eq_true, decide_eq_true_eq] at hq
                    have h3 := hq.2
                    rw [HG.out, HG.out, HX.out.2.2.1] at h3
                    refine ⟨?_, hq.1⟩
                    unfold pLe
                    simpa using h3
                  have hx3 := HE.out.2
                  go_wp2
                  go_roundw
                  case rel => exact ⟨x1 - 1, by congr 1; omega, by omega, by omega, HN.out.down HE.out.1⟩
                  case measure => (simp [intOf] <;> omega)
          · have HE : Hid (pLe P dk[x1]! = true ∧ x1 ≤ j) := by
              have hq := HB.out.1.symm
              rw [Bool.and_eq_true, decide_eq_true_eq] at hq
              have h3 := hq.2
              rw [HG.out, HG.out, HX.out.2.2.1] at h3
              refine ⟨?_, hq.1⟩
              unfold pLe
              simpa using h3
            have hx3 := HE.out.2
            go_wp2
            go_roundw
            case rel => exact ⟨x1 + 1, by go_num, by omega, by omega, HN.out.up HE.out.1⟩
            case measure => (simp [intOf] <;> omega)
end Go.Proofs.YtceejjgmepaonaaGreatDoor.Gk
