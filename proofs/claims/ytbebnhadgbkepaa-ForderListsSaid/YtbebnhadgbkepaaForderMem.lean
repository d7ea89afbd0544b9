/- Lists of words and of floats in memory; the first one of a list of floats that none is better than. -/
import Derived.Test.YtbebnhadgbkepaaForderCode
namespace Go.Proofs.Ytbebnhadgbkepaa
open Go.RowKit Go.ChangeShapes FbitPure ForderPure
/-- What is told of a list whose elements lie in memory as 'enc' lays them. -/
def ReadsE (enc : Nat → Value) (N : Nat) (w : World) (a : Option Addr) (l : List Nat) : Prop :=
  l = [] ∨ ∃ b off, a = some ⟨b, off, none⟩ ∧ b < N ∧ ∀ i, i < l.length → w.cell? ⟨b, off + i, none⟩ = some (enc (l.getD i 0))
def encF (n : Nat) : Value := .float .f64 n
def encU (n : Nat) : Value := .int .u64 (n : Int)
theorem ReadsE.on {enc : Nat → Value} {N : Nat} {w w' : World} {a : Option Addr} {l : List Nat} (h : ReadsE enc N w a l) (hb : Below N w w') : ReadsE enc N w' a l := by
  rcases h with h | ⟨b, off, ha, hN, hc⟩
  · exact Or.inl h
  · exact Or.inr ⟨b, off, ha, hN, fun i hi => (hb.cell (by exact hN)).trans (hc i hi)⟩
theorem ReadsE.at {enc : Nat → Value} {N : Nat} {w : World} {a : Option Addr} {l : List Nat} (h : ReadsE enc N w a l) {k : Nat} (hk : k < l.length) :
    ∃ b off, a = some ⟨b, off, none⟩ ∧ b < N ∧ w.cell? ⟨b, off + k, none⟩ = some (enc (l.getD k 0)) := by
  rcases h with h | ⟨b, off, ha, hN, hc⟩
  · rw [h] at hk; simp at hk
  · exact ⟨b, off, ha, hN, hc k hk⟩
theorem ReadsE.mono {enc : Nat → Value} {N N' : Nat} {w : World} {a : Option Addr} {l : List Nat} (h : ReadsE enc N w a l) (hN : N ≤ N') : ReadsE enc N' w a l := by
  rcases h with h | ⟨b, off, ha, hb, hc⟩
  · exact Or.inl h
  · exact Or.inr ⟨b, off, ha, Nat.lt_of_lt_of_le hb hN, hc⟩
/-- All are words of 64 bits. -/
def Wide (l : List Nat) : Prop := ∀ i, (l.getD i 0 : Int) ≤ 18446744073709551615
theorem wide_iff {l : List Nat} : Wide l ↔ ∀ x ∈ l, x ≤ 18446744073709551615 := by
  unfold Wide
  constructor
  · intro h x hx
    obtain ⟨i, hi, rfl⟩ := List.getElem_of_mem hx
    have := h i
    rw [List.getD_eq_getElem?_getD, List.getElem?_eq_getElem hi] at this
    simp at this
    omega
  · intro h i
    rw [List.getD_eq_getElem?_getD]
    by_cases hi : i < l.length
    · rw [List.getElem?_eq_getElem hi]
      have := h _ (List.getElem_mem hi)
      simp; omega
    · rw [List.getElem?_eq_none (by omega)]; simp
/-- The first of a list of keys that none is better than, of the first n: its place, and itself. -/
def bestGo (lt : Nat → Nat → Bool) (ks : Nat → Nat) : Nat → Int × Nat
  | 0 => (-1, 0)
  | k + 1 => if (bestGo lt ks k).1 < 0 ∨ lt (ks k) (bestGo lt ks k).2 = true then ((k : Int), ks k) else bestGo lt ks k
theorem best_yes {lt : Nat → Nat → Bool} {ks : Nat → Nat} {k : Nat} {p : Int} {q : Nat} (h : bestGo lt ks k = (p, q)) (hy : p < 0 ∨ lt (ks k) q = true) : bestGo lt ks (k + 1) = ((k : Int), ks k) := by
  rw [bestGo, h, if_pos hy]
theorem best_no {lt : Nat → Nat → Bool} {ks : Nat → Nat} {k : Nat} {p : Int} {q : Nat} (h : bestGo lt ks k = (p, q)) (h1 : ¬ p < 0) (h2 : lt (ks k) q = false) : bestGo lt ks (k + 1) = (p, q) := by
  rw [bestGo, h, if_neg (by simp [h1, h2])]
theorem best_rng (lt : Nat → Nat → Bool) (ks : Nat → Nat) : ∀ k, -1 ≤ (bestGo lt ks k).1 ∧ ((bestGo lt ks k).1 < k) ∧ (0 ≤ (bestGo lt ks k).1 → (bestGo lt ks k).2 = ks (bestGo lt ks k).1.toNat) ∧ ((bestGo lt ks k).1 < 0 → k = 0)
  | 0 => by unfold bestGo; simp
  | k + 1 => by
    obtain ⟨h1, h2, h3, h4⟩ := best_rng lt ks k
    rw [bestGo]
    split
    · refine ⟨by simp, by simp; omega, fun _ => by simp, fun h => ?_⟩
      simp at h; omega
    · rename_i hn
      have : ¬ (bestGo lt ks k).1 < 0 := fun h => hn (Or.inl h)
      exact ⟨h1, by push_cast; omega, h3, fun h => absurd h this⟩
/-- The place of the first one of l that none is better than, by keys. -/
def bestL (lt : Nat → Nat → Bool) (l : List Nat) : Int := (bestGo lt (fun i => pk (l.getD i 0)) l.length).1
theorem best_end {lt : Nat → Nat → Bool} {l : List Nat} {k : Nat} {P : Int} {B : Nat} (h : bestGo lt (fun i => pk (l.getD i 0)) k = (P, B)) (hk : k = l.length) : P = bestL lt l := by
  subst hk
  unfold bestL
  rw [h]
set_option maxHeartbeats 400000 in
theorem first_ahead (a : Option Addr) (cap : Nat) (l : List Nat) (w : World) (hr : Wide l) (hl : ReadsE encF w.heap.size w a l) (hlen : l.length ≤ 9223372036854775807) :
    Calls Try.prog 32 #[.slice a l.length cap, .func (.func 26) #[] #[]] w fun e w' => e = .returned (.int .i64 (bestL ltB l)) ∧ w = w' := by
  have HR := Lib.hid hr; have HL := Lib.hid hl
  clear hr hl
  go_enter Try.func32, Try.ntmps32
  go_wp2
  go_loop [5, 6, 12] (fun p b i => ∃ (k : Nat) (P : Int) (B : Nat), Hid (bestGo ltB (fun i => pk (l.getD i 0)) k = (P, B) ∧ k ≤ l.length) ∧ p = .int .i64 P ∧ b = .int .u64 B ∧ i = .int .i64 k) (fun _ _ i => l.length - (intOf i).toNat)
  case atStart => exact ⟨0, -1, 0, ⟨rfl, Nat.zero_le _⟩, rfl, rfl, rfl⟩
  case round =>
    obtain ⟨k, P, B, HK, rfl, rfl, rfl⟩ := hrel
    have hk := HK.out.2
    have hP := best_rng ltB (fun i => pk (l.getD i 0)) k
    rw [HK.out.1] at hP
    obtain ⟨hP1, hP2, -, -⟩ := hP
    simp only [] at hP1 hP2
    by_cases hlt : k < l.length
    · obtain ⟨b, off, rfl, hbN, hck⟩ := HL.out.at hlt
      have hrk := HR.out k
      have HY : ∀ _ : P < 0 ∨ ltB (pk (l.getD k 0)) B = true, bestGo ltB (fun i => pk (l.getD i 0)) (k + 1) = ((k : Int), pk (l.getD k 0)) := fun h => best_yes HK.out.1 h
      have HN : ∀ (_ : ¬ P < 0) (_ : ltB (pk (l.getD k 0)) B = false), bestGo ltB (fun i => pk (l.getD i 0)) (k + 1) = (P, B) := fun h1 h2 => best_no HK.out.1 h1 h2
      generalize hn : l.getD k 0 = n at *
      have HN := Lib.hid HN
      have HY := Lib.hid HY
      unfold encF at hck
      clear hn
      by_cases hPn : P < 0
      · go_wp2_with (first | (go_at_call 24; refine (keyOf_any _ hrk _).mono ?_; rintro e w' ⟨rfl, rfl⟩))
        go_round
        case rel => exact ⟨k + 1, k, pk n, ⟨HY.out (Or.inl hPn), hlt⟩, rfl, rfl, by go_num⟩
        case measure => simp [intOf]; omega
      · cases hb : ltB (pk n) B
        · have Hb := Lib.hid hb
          clear hb
          go_wp2_with (first | (go_at_call 24; refine (keyOf_any _ hrk _).mono ?_; rintro e w' ⟨rfl, rfl⟩) | (go_at_call 26; refine (ahead_any _ _ _).mono ?_; rintro e w' ⟨rfl, rfl⟩; rw [Hb.out]))
          go_round
          case rel => exact ⟨k + 1, P, B, ⟨HN.out hPn Hb.out, hlt⟩, rfl, rfl, by go_num⟩
          case measure => simp [intOf]; omega
        · have Hb := Lib.hid hb
          clear hb
          go_wp2_with (first | (go_at_call 24; refine (keyOf_any _ hrk _).mono ?_; rintro e w' ⟨rfl, rfl⟩) | (go_at_call 26; refine (ahead_any _ _ _).mono ?_; rintro e w' ⟨rfl, rfl⟩; rw [Hb.out]))
          go_round
          case rel => exact ⟨k + 1, k, pk n, ⟨HY.out (Or.inr Hb.out), hlt⟩, rfl, rfl, by go_num⟩
          case measure => simp [intOf]; omega
    · have hke := Lib.hid (show k = l.length by omega)
      go_wp2
      go_ret
      exact ⟨ret_i (best_end HK.out.1 hke.out), rfl⟩
set_option maxHeartbeats 400000 in
theorem first_behind (a : Option Addr) (cap : Nat) (l : List Nat) (w : World) (hr : Wide l) (hl : ReadsE encF w.heap.size w a l) (hlen : l.length ≤ 9223372036854775807) :
    Calls Try.prog 32 #[.slice a l.length cap, .func (.func 33) #[] #[]] w fun e w' => e = .returned (.int .i64 (bestL gtB l)) ∧ w = w' := by
  have HR := Lib.hid hr; have HL := Lib.hid hl
  clear hr hl
  go_enter Try.func32, Try.ntmps32
  go_wp2
  go_loop [5, 6, 12] (fun p b i => ∃ (k : Nat) (P : Int) (B : Nat), Hid (bestGo gtB (fun i => pk (l.getD i 0)) k = (P, B) ∧ k ≤ l.length) ∧ p = .int .i64 P ∧ b = .int .u64 B ∧ i = .int .i64 k) (fun _ _ i => l.length - (intOf i).toNat)
  case atStart => exact ⟨0, -1, 0, ⟨rfl, Nat.zero_le _⟩, rfl, rfl, rfl⟩
  case round =>
    obtain ⟨k, P, B, HK, rfl, rfl, rfl⟩ := hrel
    have hk := HK.out.2
    have hP := best_rng gtB (fun i => pk (l.getD i 0)) k
    rw [HK.out.1] at hP
    obtain ⟨hP1, hP2, -, -⟩ := hP
    simp only [] at hP1 hP2
    by_cases hlt : k < l.length
    · obtain ⟨b, off, rfl, hbN, hck⟩ := HL.out.at hlt
      have hrk := HR.out k
      have HY : ∀ _ : P < 0 ∨ gtB (pk (l.getD k 0)) B = true, bestGo gtB (fun i => pk (l.getD i 0)) (k + 1) = ((k : Int), pk (l.getD k 0)) := fun h => best_yes HK.out.1 h
      have HN : ∀ (_ : ¬ P < 0) (_ : gtB (pk (l.getD k 0)) B = false), bestGo gtB (fun i => pk (l.getD i 0)) (k + 1) = (P, B) := fun h1 h2 => best_no HK.out.1 h1 h2
      generalize hn : l.getD k 0 = n at *
      have HN := Lib.hid HN
      have HY := Lib.hid HY
      unfold encF at hck
      clear hn
      by_cases hPn : P < 0
      · go_wp2_with (first | (go_at_call 24; refine (keyOf_any _ hrk _).mono ?_; rintro e w' ⟨rfl, rfl⟩))
        go_round
        case rel => exact ⟨k + 1, k, pk n, ⟨HY.out (Or.inl hPn), hlt⟩, rfl, rfl, by go_num⟩
        case measure => simp [intOf]; omega
      · cases hb : gtB (pk n) B
        · have Hb := Lib.hid hb
          clear hb
          go_wp2_with (first | (go_at_call 24; refine (keyOf_any _ hrk _).mono ?_; rintro e w' ⟨rfl, rfl⟩) | (go_at_call 33; refine (behind_any _ _ _).mono ?_; rintro e w' ⟨rfl, rfl⟩; rw [Hb.out]))
          go_round
          case rel => exact ⟨k + 1, P, B, ⟨HN.out hPn Hb.out, hlt⟩, rfl, rfl, by go_num⟩
          case measure => simp [intOf]; omega
        · have Hb := Lib.hid hb
          clear hb
          go_wp2_with (first | (go_at_call 24; refine (keyOf_any _ hrk _).mono ?_; rintro e w' ⟨rfl, rfl⟩) | (go_at_call 33; refine (behind_any _ _ _).mono ?_; rintro e w' ⟨rfl, rfl⟩; rw [Hb.out]))
          go_round
          case rel => exact ⟨k + 1, k, pk n, ⟨HY.out (Or.inr Hb.out), hlt⟩, rfl, rfl, by go_num⟩
          case measure => simp [intOf]; omega
    · have hke := Lib.hid (show k = l.length by omega)
      go_wp2
      go_ret
      exact ⟨ret_i (best_end HK.out.1 hke.out), rfl⟩
theorem least_any (a : Option Addr) (cap : Nat) (l : List Nat) (w : World) (hr : Wide l) (hl : ReadsE encF w.heap.size w a l) (hlen : l.length ≤ 9223372036854775807) :
    Calls Try.prog 16 #[.slice a l.length cap] w fun e w' => e = .returned (.int .i64 (bestL ltB l)) ∧ w = w' := by
  have HF := Lib.hid (first_ahead a cap l w hr hl hlen)
  clear hr hl
  go_enter Try.func16, Try.ntmps16
  go_wp2_with (first | (go_at_call 32; refine HF.out.mono ?_; rintro e w' ⟨rfl, rfl⟩))
  go_ret
  exact ⟨rfl, rfl⟩
theorem most_any (a : Option Addr) (cap : Nat) (l : List Nat) (w : World) (hr : Wide l) (hl : ReadsE encF w.heap.size w a l) (hlen : l.length ≤ 9223372036854775807) :
    Calls Try.prog 18 #[.slice a l.length cap] w fun e w' => e = .returned (.int .i64 (bestL gtB l)) ∧ w = w' := by
  have HF := Lib.hid (first_behind a cap l w hr hl hlen)
  clear hr hl
  go_enter Try.func18, Try.ntmps18
  go_wp2_with (first | (go_at_call 32; refine HF.out.mono ?_; rintro e w' ⟨rfl, rfl⟩))
  go_ret
  exact ⟨rfl, rfl⟩
end Go.Proofs.Ytbebnhadgbkepaa
