/- The document's own look whether two lists of lists are the same. -/
import Derived.Test.YtmohfmhkhldhnaaGreatPk5
import Derived.BigQuiet
import Derived.BigRegion
import Derived.Deep.RegionWith
namespace Go.Proofs.YtmohfmhkhldhnaaGreat.Ds
open Go.RowKit Go.ChangeShapes
theorem _root_.Go.Proofs.YtmohfmhkhldhnaaGreat.RowsAt.at {M : Nat} {w : World} {a : Option Addr} {L : List (List Int)} (h : RowsAt M w a L) {k : Nat} (hk : k < L.length) :
    ∃ b off q c, a = some ⟨b, off, none⟩ ∧ b < w.heap.size ∧ w.cell? ⟨b, off + k, none⟩ = some (.slice q L[k].length c) ∧ ReadsL encZ w.heap.size w q L[k] := by
  rcases h with h | ⟨b, off, ha, -, hN, hc⟩
  · subst h; simp at hk
  · obtain ⟨q, c, h1, h2, -⟩ := hc k L[k] (List.getElem?_eq_getElem hk)
    exact ⟨b, off, q, c, ha, hN, h1, h2⟩
/-- Lists that are the same are told so. -/
theorem lists_true (M M' : Nat) (a a' : Option Addr) (c1 c2 : Nat) (L : List (List Int)) (w : World) (h1 : RowsAt M w a L) (h2 : RowsAt M' w a' L) (hl1 : L.length ≤ 1000000) (hl2 : ∀ l ∈ L, l.length ≤ 1000000) :
    Calls Tryz.prog 14 #[.slice a L.length c1, .slice a' L.length c2] w fun e w' => e = .returned (.bool true) ∧ ∃ m, w' = w.drewN m := by
  have H1 := Lib.hid h1
  have H2 := Lib.hid h2
  have H3 := Lib.hid hl2
  clear h1 h2 hl2
  have t : ((L.length : Int) != (L.length : Int)) = false := bne_self_eq_false _
  go_enter Tryz.func14, Tryz.ntmps14
  go_wp2
  go_loopw [5] (fun i wr => ∃ k m : Nat, i = .int .i64 k ∧ k ≤ L.length ∧ wr = w.drewN m) (fun i _ => L.length - (intOf i).toNat)
  case atStart => exact ⟨0, 0, rfl, Nat.zero_le _, rfl⟩
  case round =>
    obtain ⟨k, m, rfl, hk, rfl⟩ := hrel
    have i0 : (0 : Int) ≤ (k : Int) := by omega
    by_cases hlt : k < L.length
    · have i1 : (k : Int) < (L.length : Int) := by omega
      obtain ⟨b, off, q, c, rfl, hbN, d1, hr1⟩ := H1.out.at hlt
      obtain ⟨b', off', q', c', rfl, hbN', d2, hr2⟩ := H2.out.at hlt
      have hle := H3.out _ (List.getElem_mem hlt)
      have HD1 : Hid (∀ j, ReadsL encZ (w.drewN j).heap.size (w.drewN j) q L[k]) := Lib.hid fun j => ReadsL.over hr1 (below_drewN (Below.refl _ _) j) (Nat.le_refl _)
      have HD2 : Hid (∀ j, ReadsL encZ (w.drewN j).heap.size (w.drewN j) q' L[k]) := Lib.hid fun j => ReadsL.over hr2 (below_drewN (Below.refl _ _) j) (Nat.le_refl _)
      clear hr1 hr2
      generalize L[k] = l at *
      go_wp2_with fail
      go_region_with (go_at_call 17; refine (ints_any q q' c c' l l _ (HD1.out _) (HD2.out _) (Nat.le_trans hle (by omega))).mono ?_; rintro e w1 ⟨rfl, m1, rfl⟩; rw [decide_eq_true (rfl : l = l)])
      all_goals go_wp2
      all_goals go_roundw
      all_goals first
        | exact ⟨k + 1, _, by go_num, by omega, rfl⟩
        | (simp [intOf] <;> omega)
    · have hge : ¬ (k : Int) < (L.length : Int) := by omega
      go_wp2
      go_ret
      exact ⟨rfl, _, rfl⟩
end Go.Proofs.YtmohfmhkhldhnaaGreat.Ds
