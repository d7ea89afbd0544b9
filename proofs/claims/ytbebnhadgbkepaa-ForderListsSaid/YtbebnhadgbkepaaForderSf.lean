/- The floats of a list, rising: what is known of them. -/
import Derived.Test.YtbebnhadgbkepaaForderCount
namespace Go.Proofs.Ytbebnhadgbkepaa
open Go.RowKit FbitPure ForderPure
open Go.Sort hiding Below
theorem pk_unk {l : List Nat} (h : Wide l) {k : Nat} (hk : k ∈ sk l) : pk (unk k) = k ∧ unk k ≤ 18446744073709551615 ∧ bitsN (unk k) = unk k := by
  have : k ∈ keysOf l := (List.mergeSort_perm _ _).mem_iff.1 hk
  obtain ⟨b, hb, rfl⟩ := List.mem_map.1 this
  rw [wide_iff] at h
  rw [unk_pk (h b hb)]
  exact ⟨pk_bits b, bits_le (h b hb), bits_bits b⟩
/-- The floats of l, rising. -/
def sf (l : List Nat) : List Nat := (sk l).map unk
theorem len_sf (l : List Nat) : (sf l).length = l.length := by unfold sf; rw [List.length_map, len_sk]
theorem sf_wide {l : List Nat} (h : Wide l) : Wide (sf l) := by
  rw [wide_iff]
  intro x hx
  obtain ⟨k, hk, rfl⟩ := List.mem_map.1 hx
  exact (pk_unk h hk).2.1
theorem keys_sf {l : List Nat} (h : Wide l) : keysOf (sf l) = sk l := by
  unfold keysOf sf
  rw [List.map_map]
  exact (List.map_congr_left (g := id) fun k hk => (pk_unk h hk).1).trans (List.map_id _)
theorem sk_sf {l : List Nat} (h : Wide l) : sk (sf l) = sk l := by
  show (keysOf (sf l)).mergeSort _ = _
  rw [keys_sf h]
  exact List.mergeSort_of_pairwise (List.pairwise_mergeSort (fun a b c h1 h2 => by unfold ltB at *; simp at *; omega) (fun a b => by unfold ltB; simp; omega) _)
theorem sf_sf {l : List Nat} (h : Wide l) : sf (sf l) = sf l := by
  show (sk (sf l)).map unk = _
  rw [sk_sf h]
  rfl
theorem sf_key {l : List Nat} (h : Wide l) {i : Nat} (hi : i < l.length) : pk ((sf l).getD i 0) = (sk l).getD i 0 := by
  have hi' : i < (sk l).length := by rw [len_sk]; exact hi
  have e : (sf l).getD i 0 = unk ((sk l).getD i 0) := by
    unfold sf
    simp [List.getD_eq_getElem?_getD, hi']
  rw [e]
  refine (pk_unk h ?_).1
  rw [List.getD_eq_getElem?_getD, List.getElem?_eq_getElem hi']
  exact List.getElem_mem hi'
theorem sf_rises {l : List Nat} (h : Wide l) {i j : Nat} (hij : i < j) (hj : j < l.length) : ltB (pk ((sf l).getD j 0)) (pk ((sf l).getD i 0)) = false := by
  rw [sf_key h hj, sf_key h (by omega)]
  have := sk_sorted l i j (Nat.zero_le _) hij (by rw [len_sk]; exact hj)
  rwa [get_toArray, get_toArray] at this
theorem sf_bits {l : List Nat} (h : Wide l) {i : Nat} (hi : i < l.length) : bitsN ((sf l).getD i 0) = (sf l).getD i 0 := by
  have hi' : i < (sk l).length := by rw [len_sk]; exact hi
  have e : (sf l).getD i 0 = unk ((sk l).getD i 0) := by
    unfold sf
    simp [List.getD_eq_getElem?_getD, hi']
  rw [e]
  refine (pk_unk h ?_).2.2
  rw [List.getD_eq_getElem?_getD, List.getElem?_eq_getElem hi']
  exact List.getElem_mem hi'
theorem best_stays {ks : Nat → Nat} {n : Nat} (h : ∀ j, 0 < j → j < n → ltB (ks j) (ks 0) = false) : ∀ k, k < n → bestGo ltB ks (k + 1) = (0, ks 0)
  | 0, _ => by simp [bestGo]
  | k + 1, hk => best_no (best_stays h k (by omega)) (by omega) (h (k + 1) (by omega) hk)
theorem best_sf {l : List Nat} (h : Wide l) (h0 : 0 < l.length) : bestL ltB (sf l) = 0 := by
  unfold bestL
  have := best_stays (ks := fun i => pk ((sf l).getD i 0)) (n := l.length) (fun j hj hjn => sf_rises h hj hjn) (l.length - 1) (by omega)
  rw [show l.length - 1 + 1 = l.length by omega] at this
  rw [len_sf, this]
end Go.Proofs.Ytbebnhadgbkepaa
