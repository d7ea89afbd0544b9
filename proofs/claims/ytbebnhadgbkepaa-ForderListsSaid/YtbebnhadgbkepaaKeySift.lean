/- The library's sifting down at the keys of floats: what the plain function makes of the row. -/
import Derived.Test.YtbebnhadgbkepaaKeyRow
import Derived.BigRegion
import Derived.Deep.CutRange
import Derived.Deep.DeepFit
namespace Go.Proofs.Ytbebnhadgbkepaa
open Go.RowKit ForderPure
open Go.Sort hiding Below
theorem sd_end {hi F r : Nat} {d : Array Nat} (h : hi ≤ 2 * r + 1) : siftDown ltB hi F r d = d := by
  rw [siftDown, dif_pos h]
/-- The child that is looked at. -/
theorem sd_right {hi F r : Nat} {d : Array Nat} (h1 : 2 * r + 2 < hi) (h2 : ltB d[F + (2 * r + 1)]! d[F + (2 * r + 2)]! = true) :
    siftDown ltB hi F r d = if ltB d[F + r]! d[F + (2 * r + 2)]! = true then siftDown ltB hi F (2 * r + 2) (swp d (F + r) (F + (2 * r + 2))) else d := by
  rw [siftDown, dif_neg (by omega), show F + (2 * r + 1) + 1 = F + (2 * r + 2) by omega, show 2 * r + 1 + 1 = 2 * r + 2 by omega]
  have e : (decide (2 * r + 2 < hi) && ltB d[F + (2 * r + 1)]! d[F + (2 * r + 2)]!) = true := by simp [h1, h2]
  rw [if_pos e]
  cases hq : ltB d[F + r]! d[F + (2 * r + 2)]!
  · simp
  · simp [h1]
theorem sd_left {hi F r : Nat} {d : Array Nat} (h1 : 2 * r + 1 < hi) (h2 : ¬ 2 * r + 2 < hi ∨ ltB d[F + (2 * r + 1)]! d[F + (2 * r + 2)]! = false) :
    siftDown ltB hi F r d = if ltB d[F + r]! d[F + (2 * r + 1)]! = true then siftDown ltB hi F (2 * r + 1) (swp d (F + r) (F + (2 * r + 1))) else d := by
  rw [siftDown, dif_neg (by omega), show F + (2 * r + 1) + 1 = F + (2 * r + 2) by omega, show 2 * r + 1 + 1 = 2 * r + 2 by omega]
  have e : ¬ (decide (2 * r + 2 < hi) && ltB d[F + (2 * r + 1)]! d[F + (2 * r + 2)]!) = true := by
    rcases h2 with h2 | h2 <;> simp [h2]
  rw [if_neg e]
  cases hq : ltB d[F + r]! d[F + (2 * r + 1)]! <;> simp
/-- At the head of a round. -/
def SiftRel (w0 : World) (blk off hi F lo : Nat) (d : Array Nat) (r : Nat) (dk : Array Nat) (w : World) : Prop := RowAt w0 blk off dk w ∧ dk.size = d.size ∧ siftDown ltB hi F r dk = siftDown ltB hi F lo d
set_option maxHeartbeats 1000000 in
set_option maxRecDepth 100000 in
theorem sift_any (blk off cap lo hi F : Nat) (d : Array Nat) (w : World) (hH : Holds encU w blk off d) (hbk : blk < w.heap.size) (hb : F + hi ≤ d.size) (hlo : lo ≤ d.size) (hsz : d.size < 4611686018427387904) :
    Calls Try.prog 52 #[.slice (some ⟨blk, off, none⟩) d.size cap, .int .i64 lo, .int .i64 hi, .int .i64 F] w fun e w' =>
      e = .returned (.tuple #[]) ∧ RowAt w blk off (siftDown ltB hi F lo d) w' := by
  have HH := Lib.hid hH
  have HS : Hid (SiftRel w blk off hi F lo d lo d w) := ⟨RowAt.start hH, rfl, rfl⟩
  clear hH
  go_enter Try.func52, Try.ntmps52
  go_wp2
  go_loopw [8] (fun vi wr => ∃ (r : Nat) (dk : Array Nat), vi = .int .i64 r ∧ r ≤ d.size ∧ Hid (SiftRel w blk off hi F lo d r dk wr)) (fun vi _ => d.size - (intOf vi).toNat)
  case atStart => exact ⟨lo, d, rfl, hlo, HS⟩
  case round =>
    obtain ⟨r, dk, rfl, hr, HR⟩ := hrel
    by_cases h1 : 2 * r + 1 < hi
    · obtain ⟨G, hG⟩ := named dk
      have hsk : dk.size = d.size := HR.out.2.1
      have hcw : ∀ W, RowAt w blk off dk W → ∀ t, t < d.size → W.cell? ⟨blk, off + t, none⟩ = some (.int .u64 (G t : Int)) := fun W hW t ht => by
        rw [hG]; exact hW.cell HH.out hbk hsk ht
      have HC := Lib.hid hcw
      have HG := Lib.hid hG
      have HZ := Lib.hid hsk
      have hcw1 := HC.out wr HR.out.1
      clear hG hsk hcw
      have t1 : ¬ ((hi : Int) ≤ 2 * (r : Int) + 1) := by omega
      go_upto_region 3 with fail
      go_cut [36] from 11 to 75 (fun b wx => ∃ B, b = .bool B ∧ Hid (B = (decide (2 * r + 2 < hi) && ltB (G (F + (2 * r + 1))) (G (F + (2 * r + 2)))) ∧ RowAt w blk off dk wx))
      case first =>
        by_cases h2 : 2 * r + 2 < hi
        · have t2 : 2 * (r : Int) + 1 + 1 < (hi : Int) := by omega
          have e1 : F + 2 * r + 1 = F + (2 * r + 1) := by omega
          have e2 : F + 2 * r + 2 = F + (2 * r + 2) := by omega
          have hl := fun W => key_less (G (F + 2 * r + 1)) (G (F + 2 * r + 2)) W
          generalize hb1 : ltB (G (F + 2 * r + 1)) (G (F + 2 * r + 2)) = B at *
          have HL := Lib.hid hl
          rw [e1, e2] at hb1
          subst hb1
          clear hl e1 e2
          go_quiet (first | (go_at_call 47; refine Calls.quiet_of_same (HL.out _)))
          go_wp2_with fail
          go_meet
          case rel => exact ⟨_, rfl, by simp [h2], HR.out.1.drewN _⟩
        · have t2 : decide (2 * (r : Int) + 1 + 1 < (hi : Int)) = false := decide_eq_false (by omega)
          go_quiet (first | (go_at_call 47; refine Calls.quiet_of_same (key_less _ _ _)))
          go_wp2_with fail
          go_meet
          case rel => exact ⟨false, rfl, by simp [h2], HR.out.1.drewN _⟩
      case rest =>
        obtain ⟨B, rfl, HB⟩ := hcut
        clear hcw1
        go_upto_if 36 with fail
        go_cut [9] from 11 to 75 (fun c wx => ∃ x : Nat, c = .int .i64 x ∧ x < hi ∧ r < x ∧ Hid (siftDown ltB hi F r dk = (if ltB dk[F + r]! dk[F + x]! = true then siftDown ltB hi F x (swp dk (F + r) (F + x)) else dk) ∧ RowAt w blk off dk wx))
        case first =>
          cases B
          · go_wp2_with fail
            go_meet
            case rel =>
              have hb := HB.out.1
              refine ⟨2 * r + 1, by go_num, h1, by omega, sd_left h1 ?_, HB.out.2⟩
              rw [HG.out, HG.out] at hb
              by_cases h2 : 2 * r + 2 < hi
              · simp [h2] at hb; exact Or.inr hb
              · exact Or.inl h2
          · have hb := HB.out.1
            rw [HG.out, HG.out] at hb
            have h2 : 2 * r + 2 < hi ∧ ltB dk[F + (2 * r + 1)]! dk[F + (2 * r + 2)]! = true := by
              have := hb.symm
              simp at this
              simpa using this
            obtain ⟨h2, h3⟩ := h2
            have H3 := Lib.hid h3
            clear hb h3
            go_wp2_with fail
            go_meet
            case rel => exact ⟨2 * r + 2, by go_num, h2, by omega, sd_right h2 H3.out, HB.out.2⟩
        case rest =>
          obtain ⟨x, rfl, hx1, hx2, HX⟩ := hcut
          have hcw2 := HC.out wc HX.out.2
          go_upto_region 5 with fail
          have hl := fun W => key_less (G (F + r)) (G (F + x)) W
          cases hb : ltB (G (F + r)) (G (F + x))
          · rw [hb] at hl
            have HL := Lib.hid hl
            have HB1 := Lib.hid hb
            clear hl hb
            go_quiet (first | (go_at_call 47; refine Calls.quiet_of_same (HL.out _)))
            go_wp2
            refine bodyPost_ret (results_none rfl _ _ _) rfl ⟨rfl, ?_⟩
            have hb := HB1.out
            rw [HG.out, HG.out] at hb
            obtain ⟨g1, g2, g3⟩ := HR.out
            rw [← g3, HX.out.1, hb, if_neg (by simp)]
            exact HX.out.2.drewN _
          · rw [hb] at hl
            have HL := Lib.hid hl
            have HB1 := Lib.hid hb
            clear hl hb
            go_quiet (first | (go_at_call 47; refine Calls.quiet_of_same (HL.out _)))
            go_wp2_with fail
            have hrow := HX.out.2.drewN nq
            have HROW := Lib.hid hrow
            generalize wc.drewN nq = w3 at *
            have hcw3 := HC.out w3 HROW.out
            have hfw3 : ∀ t, t < d.size → w3.frozen? ⟨blk, off + t, none⟩ = false := fun t ht => HROW.out.frozen HH.out hbk ht
            clear hrow hcw2
            go_region
            all_goals go_wp2
            go_roundw
            case rel =>
              obtain ⟨g1, g2, g3⟩ := HR.out
              refine ⟨x, swp dk (F + r) (F + x), rfl, by omega, ?_, by rw [size_swp]; exact g2, ?_⟩
              · rw [HG.out, HG.out]
                exact HROW.out.swap hbk (by rw [HZ.out]; omega) (by rw [HZ.out]; omega) 1
              · have hb := HB1.out
                rw [HG.out, HG.out] at hb
                rw [← g3, HX.out.1, hb, if_pos rfl]
            case measure => simp [intOf]; omega
    · have t1 : (hi : Int) ≤ 2 * (r : Int) + 1 := by omega
      go_wp2
      go_end0
      obtain ⟨g1, g2, g3⟩ := HR.out
      refine ⟨rfl, ?_⟩
      rw [← g3, sd_end (by omega)]
      exact g1
end Go.Proofs.Ytbebnhadgbkepaa
