/- The library's insertion sort at the keys of floats: sorted, and nothing but turned. -/
import Derived.Test.YtbebnhadgbkepaaKeyRow
namespace Go.Proofs.Ytbebnhadgbkepaa
open Go.RowKit ForderPure
open Go.Sort hiding Below
/-- At the head of the outer loop. -/
def OutRel (w0 : World) (blk off a b : Nat) (d : Array Nat) (i : Nat) (w : World) : Prop := ∃ dk, RowAt w0 blk off dk w ∧ PermIn a b d dk ∧ SortedIn ltB a i dk
/-- At the head of the inner loop. -/
def InsRel (w0 : World) (blk off a b : Nat) (d : Array Nat) (i j : Nat) (dk : Array Nat) (w : World) : Prop := RowAt w0 blk off dk w ∧ PermIn a b d dk ∧ Ins ltB a j i dk
theorem ins_start {a i : Nat} {d : Array Nat} (h : SortedIn ltB a i d) : Ins ltB a i i d :=
  ⟨fun p q hp hpq hq hpi hqi => h p q hp hpq (by omega), fun q h1 h2 => by omega⟩
set_option maxHeartbeats 1000000 in
set_option maxRecDepth 100000 in
theorem ins_any (blk off cap a b : Nat) (d : Array Nat) (w : World) (hH : Holds encU w blk off d) (hbk : blk < w.heap.size) (hab : a ≤ b) (hb : b ≤ d.size) (hsz : d.size < 4611686018427387904) :
    Calls Try.prog 41 #[.slice (some ⟨blk, off, none⟩) d.size cap, .int .i64 a, .int .i64 b] w fun e w' =>
      e = .returned (.tuple #[]) ∧ Turned w blk off a b d (SortedIn ltB a b) w' := by
  have HH := Lib.hid hH
  have HS : Hid (OutRel w blk off a b d (a + 1) w) := ⟨d, RowAt.start hH, permIn_refl _ _ _, fun i j _ _ _ => by omega⟩
  clear hH
  go_enter Try.func41, Try.ntmps41
  go_wp2
  go_loopw [6] (fun vi wr => ∃ i : Nat, vi = .int .i64 i ∧ a < i ∧ i ≤ b + 1 ∧ Hid (OutRel w blk off a b d i wr)) (fun vi _ => b + 1 - (intOf vi).toNat)
  case atStart => exact ⟨a + 1, by go_num, by omega, by omega, HS⟩
  case round =>
    obtain ⟨i, rfl, hai, hib, HO⟩ := hrel
    by_cases hlt : i < b
    · go_wp2
      go_loopw [7] (fun vj wr2 => ∃ (j : Nat) (dj : Array Nat), vj = .int .i64 j ∧ a ≤ j ∧ j ≤ i ∧ Hid (InsRel w blk off a b d i j dj wr2)) (fun vj _ => (intOf vj).toNat)
      case atStart =>
        obtain ⟨dk, h1, h2, h3⟩ := HO.out
        exact ⟨i, dk, rfl, by omega, Nat.le_refl _, ⟨h1, h2, ins_start h3⟩⟩
      case round =>
        obtain ⟨j, dj, rfl, haj, hji, HI⟩ := hrel
        obtain ⟨G, hG⟩ := named dj
        have hsj : dj.size = d.size := HI.out.2.1.1
        have hcw : ∀ t, t < d.size → wr.cell? ⟨blk, off + t, none⟩ = some (.int .u64 (G t : Int)) := fun t ht => by
          rw [hG]; exact HI.out.1.cell HH.out hbk hsj ht
        have hfw : ∀ t, t < d.size → wr.frozen? ⟨blk, off + t, none⟩ = false := fun t ht => HI.out.1.frozen HH.out hbk ht
        have HG := Lib.hid hG
        have HZ := Lib.hid hsj
        clear hG hsj
        have OUT : Hid ((j ≤ a ∨ ltB (G j) (G (j - 1)) = false) → ∀ q, OutRel w blk off a b d (i + 1) (wr.drewN q)) := by
          show (j ≤ a ∨ ltB (G j) (G (j - 1)) = false) → ∀ q, OutRel w blk off a b d (i + 1) (wr.drewN q)
          intro hs q
          rw [HG.out, HG.out] at hs
          exact ⟨dj, HI.out.1.drewN q, HI.out.2.1, HI.out.2.2.stop swo_lt hs⟩
        by_cases hja : a < j
        · go_wp2
          go_quiet (first | (go_at_call 47; refine Calls.quiet_of_same (key_less _ _ _)))
          go_wp2
          · have hl : ltB (G j) (G (j - 1)) = true := by assumption
            go_region
            all_goals go_wp2
            go_roundw
            case rel =>
              refine ⟨j - 1, swp dj j (j - 1), by congr 1; omega, by omega, by omega, ?_, ?_, ?_⟩
              · rw [HG.out, HG.out]
                exact HI.out.1.swap hbk (by rw [HZ.out]; omega) (by rw [HZ.out]; omega) _
              · exact permIn_trans _ _ _ _ _ HI.out.2.1 (swp_permIn _ _ _ _ _ (by omega) (by omega) (by omega) (by omega) (by rw [HZ.out]; exact hb))
              · have := HI.out.2.2
                rw [HG.out, HG.out] at hl
                obtain ⟨k, rfl⟩ : ∃ k, j = k + 1 := ⟨j - 1, by omega⟩
                exact this.step hl (by omega) (by rw [HZ.out]; omega)
            case measure => simp [intOf]; omega
          · have hl : ltB (G j) (G (j - 1)) = false := by assumption
            go_roundw
            case rel => exact ⟨i + 1, by go_num, by omega, by omega, OUT.out (Or.inr hl) nq⟩
            case measure => simp [intOf]; omega
        · go_wp2
          go_quiet (first | (go_at_call 47; refine Calls.quiet_of_same (key_less _ _ _)))
          go_wp2
          go_roundw
          case rel => exact ⟨i + 1, by go_num, by omega, by omega, OUT.out (Or.inl (by omega)) nq⟩
          case measure => simp [intOf]; omega
    · go_wp2
      go_end0
      obtain ⟨dk, h1, h2, h3⟩ := HO.out
      exact ⟨rfl, dk, h1, h2, fun p q hp hpq hq => h3 p q hp hpq (by omega)⟩
end Go.Proofs.Ytbebnhadgbkepaa
