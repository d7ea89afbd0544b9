/- The library's turning round of a range of keys. -/
import Derived.Test.YtbebnhadgbkepaaKeyRow
namespace Go.Proofs.Ytbebnhadgbkepaa
open Go.RowKit ForderPure
open Go.Sort hiding Below
/-- A row that is so far turned within its places. -/
def Mid (w0 : World) (blk off a b : Nat) (d : Array Nat) (w : World) : Prop := ∃ dk, RowAt w0 blk off dk w ∧ PermIn a b d dk
set_option maxHeartbeats 400000 in
set_option maxRecDepth 100000 in
theorem rev_any (blk off cap a b : Nat) (d : Array Nat) (w : World) (hH : Holds encU w blk off d) (hbk : blk < w.heap.size) (hab : a < b) (hb : b ≤ d.size) (hsz : d.size < 4611686018427387904) :
    Calls Try.prog 45 #[.slice (some ⟨blk, off, none⟩) d.size cap, .int .i64 a, .int .i64 b] w fun e w' =>
      e = .returned (.tuple #[]) ∧ Mid w blk off a b d w' := by
  have HH := Lib.hid hH
  have HS : Hid (Mid w blk off a b d w) := ⟨d, RowAt.start hH, permIn_refl _ _ _⟩
  clear hH
  go_enter Try.func45, Try.ntmps45
  go_wp2
  go_loopw [6, 7] (fun vi vj wr => ∃ i j : Nat, vi = .int .i64 i ∧ vj = .int .i64 j ∧ a ≤ i ∧ j < b ∧ Hid (Mid w blk off a b d wr)) (fun _ vj _ => (intOf vj).toNat)
  case atStart => exact ⟨a, b - 1, rfl, by congr 1; omega, by omega, by omega, HS⟩
  case round =>
    obtain ⟨i, j, rfl, rfl, hi, hj, HM⟩ := hrel
    by_cases hlt : i < j
    · obtain ⟨dk, h1, h2⟩ := HM.out
      have hsk : dk.size = d.size := h2.1
      obtain ⟨G, hG⟩ := named dk
      have hcw : ∀ t, t < d.size → wr.cell? ⟨blk, off + t, none⟩ = some (.int .u64 (G t : Int)) := fun t ht => by
        rw [hG]; exact h1.cell HH.out hbk hsk ht
      have hfw : ∀ t, t < d.size → wr.frozen? ⟨blk, off + t, none⟩ = false := fun t ht => h1.frozen HH.out hbk ht
      have HG := Lib.hid hG
      have HW := Lib.hid (fun q => h1.swap hbk (j := i) (k := j) (by omega) (by omega) q)
      have HP := Lib.hid (permIn_trans _ _ _ _ _ h2 (swp_permIn dk a b i j hi (by omega) (by omega) hj (by omega)))
      clear hG h1 h2 hsk
      go_wp2
      go_region
      all_goals go_wp2
      go_roundw
      case rel =>
        refine ⟨i + 1, j - 1, by go_num, by congr 1; omega, by omega, by omega, swp dk i j, ?_, HP.out⟩
        rw [HG.out, HG.out]
        exact HW.out 1
      case measure => (simp [intOf] <;> omega)
    · go_wp2
      go_end0
      exact ⟨rfl, HM.out⟩
end Go.Proofs.Ytbebnhadgbkepaa
