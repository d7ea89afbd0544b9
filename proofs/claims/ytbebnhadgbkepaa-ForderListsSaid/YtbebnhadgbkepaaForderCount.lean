/- How many unlike ones a list of floats has: the library's Compact of the keys that rise. -/
import Derived.Test.YtbebnhadgbkepaaForderSort
namespace Go.Proofs.Ytbebnhadgbkepaa
open Go.RowKit ForderPure FbitPure
open Go.Sort hiding Below
/-- How many unlike ones there are. -/
def dn : List Nat → Nat
  | [] => 0
  | x :: r => if x ∈ r then dn r else dn r + 1
theorem dn_perm {l l' : List Nat} (h : l.Perm l') : dn l = dn l' := by
  induction h with
  | nil => rfl
  | cons x h ih => simp only [dn, h.mem_iff, ih]
  | swap x y l =>
    simp only [dn, List.mem_cons]
    by_cases hxy : x = y
    · subst hxy; rfl
    · have hyx : ¬ y = x := fun e => hxy e.symm
      by_cases hx : x ∈ l <;> by_cases hy : y ∈ l <;> simp [hx, hy, hxy, hyx]
  | trans _ _ h1 h2 => exact h1.trans h2
/-- One more: it counts just if it is unlike all ahead of it. -/
theorem dn_take {l : List Nat} {k : Nat} (hk : k < l.length) : dn (l.take (k + 1)) = dn (l.take k) + (if l.getD k 0 ∈ l.take k then 0 else 1) := by
  have e : l.take (k + 1) = l.take k ++ [l.getD k 0] := by
    rw [List.take_add_one, List.getElem?_eq_getElem hk]
    simp [List.getD_eq_getElem?_getD, hk]
  rw [e, dn_perm (List.perm_append_comm : (l.take k ++ [l.getD k 0]).Perm ([l.getD k 0] ++ l.take k))]
  show (if l.getD k 0 ∈ l.take k then dn (l.take k) else dn (l.take k) + 1) = _
  split <;> rfl
theorem get_toArray (l : List Nat) (k : Nat) : l.toArray[k]! = l.getD k 0 := by
  rw [List.getElem!_toArray, List.getElem!_eq_getElem?_getD, List.getD_eq_getElem?_getD]; rfl
/-- In a list that rises the next one is like one ahead of it just if it is like the one ahead. -/
theorem mem_take_sorted {s : List Nat} (h : SortedIn ltB 0 s.length s.toArray) {k : Nat} (hk : k < s.length) : s.getD k 0 ∈ s.take k ↔ Lib.keeps s.toArray k = false := by
  unfold Lib.keeps
  rw [get_toArray, get_toArray]
  constructor
  · intro hm
    obtain ⟨i, hi, he⟩ := List.getElem_of_mem hm
    rw [List.length_take] at hi
    rw [List.getElem_take] at he
    have h1 : s.getD i 0 = s.getD k 0 := by rw [← he, List.getD_eq_getElem?_getD, List.getElem?_eq_getElem (by omega)]; rfl
    have h2 : s.getD (k - 1) 0 = s.getD k 0 := by
      by_cases hik : i = k - 1
      · rw [← hik]; exact h1
      · have a1 := h i (k - 1) (by omega) (by omega) (by omega)
        have a2 := h (k - 1) k (by omega) (by omega) hk
        rw [get_toArray, get_toArray] at a1 a2
        unfold ltB at a1 a2
        simp only [decide_eq_false_iff_not] at a1 a2
        omega
    rw [h2]
    simp; omega
  · intro hf
    simp only [decide_eq_false_iff_not, not_or, Decidable.not_not] at hf
    obtain ⟨h0, h1⟩ := hf
    rw [h1]
    have : s.getD (k - 1) 0 = s[k - 1]'(by omega) := by rw [List.getD_eq_getElem?_getD, List.getElem?_eq_getElem (by omega)]; rfl
    rw [this]
    exact List.mem_take_iff_getElem.2 ⟨k - 1, by omega, rfl⟩
theorem compact_dn {s : List Nat} (h : SortedIn ltB 0 s.length s.toArray) : ∀ k, k ≤ s.length → (Lib.compactUpTo s.toArray k).length = dn (s.take k)
  | 0, _ => by simp [Lib.compactUpTo, dn]
  | k + 1, hk => by
    rw [Lib.compactUpTo_succ, dn_take (by omega), List.length_append, compact_dn h k (by omega)]
    have hm := mem_take_sorted h (show k < s.length by omega)
    cases hq : Lib.keeps s.toArray k
    · rw [if_pos (hm.2 hq)]; rfl
    · have hn : ¬ s.getD k 0 ∈ s.take k := fun c => by rw [hm.1 c] at hq; cases hq
      rw [if_neg hn]; rfl
theorem sk_sorted (l : List Nat) : SortedIn ltB 0 (sk l).length (sk l).toArray := by
  intro i j _ hij hj
  have hp : (sk l).Pairwise (fun x y => (!ltB y x) = true) := List.pairwise_mergeSort (fun a b c h1 h2 => by unfold ltB at *; simp at *; omega) (fun a b => by unfold ltB; simp; omega) _
  have := List.pairwise_iff_getElem.1 hp i j (by omega) hj hij
  rw [get_toArray, get_toArray, List.getD_eq_getElem?_getD, List.getD_eq_getElem?_getD, List.getElem?_eq_getElem hj, List.getElem?_eq_getElem (show i < (sk l).length by omega)]
  simpa using this
/-- How many unlike floats there are. -/
def countN (l : List Nat) : Nat := dn (keysOf l)
theorem compact_count (l : List Nat) : (Lib.compactUpTo (sk l).toArray (sk l).toArray.size).length = countN l := by
  have := compact_dn (sk_sorted l) (sk l).length (Nat.le_refl _)
  rw [List.take_length] at this
  rw [List.size_toArray, this]
  exact dn_perm (List.mergeSort_perm _ _)
theorem u64_eql (T : TypeId) : EqlAt Try.prog T encU (fun x y => decide (x = y)) :=
  ⟨fun x y w => by
    have := (EqlAt.int Try.prog T .u64).1 (x : Int) (y : Int) w
    refine this.trans ?_
    by_cases h : x = y
    · subst h; simp
    · have : ¬ (x : Int) = (y : Int) := by omega
      simp [h, this], fun op a b x y w => (EqlAt.int Try.prog T .u64).2 op a b (x : Int) (y : Int) w⟩
theorem u64_neq (T : TypeId) : NeqAt Try.prog T encU (fun x y => decide (x = y)) :=
  ⟨fun x y w => by
    have := (NeqAt.int Try.prog T .u64).1 (x : Int) (y : Int) w
    refine this.trans ?_
    by_cases h : x = y
    · subst h; simp
    · have : ¬ (x : Int) = (y : Int) := by omega
      simp [h, this], fun op a b x y w => (NeqAt.int Try.prog T .u64).2 op a b (x : Int) (y : Int) w⟩
theorem compact_any (blk cap : Nat) (l : List Nat) (n : Nat) (hn : n = (sk l).length) (w : World) (hH : Holds encU w blk 0 (sk l).toArray) (hsz : (sk l).length ≤ 1000) (hcap : (sk l).length ≤ cap) (hb : blk < w.heap.size) :
    Calls Try.prog 34 #[.slice (some ⟨blk, 0, none⟩) n cap] w fun e w' => e = .returned (.slice (some ⟨blk, 0, none⟩) (countN l) cap) ∧ Below blk w w' := by
  have h := AnyE.slices_Compact Try.lays43 encU (fun _ => rfl) (u64_eql _) (u64_neq _) 0 Try.zeroValue42 blk 0 cap (sk l).toArray w hH (by simp; omega) (by simpa using hcap)
  rw [compact_count] at h
  subst hn
  refine h.mono fun e w' ⟨he, q, hw⟩ => ⟨he, ?_⟩
  have hr : RowAt w blk 0 (Lib.compactUpTo (sk l).toArray (sk l).toArray.size ++ List.replicate ((sk l).toArray.size - countN l) 0).toArray w' := ⟨q, #[], by rw [hw, grow_empty]⟩
  exact hr.below hb
theorem count_any (m : Nat) (hS : SortOk m) (hm : m ≤ 1000) (a : Option Addr) (cap : Nat) (l : List Nat) (w : World) (hr : Wide l) (hl : ReadsE encF w.heap.size w a l) (hlen : l.length ≤ m) :
    Calls Try.prog 20 #[.slice a l.length cap] w fun e w' => e = .returned (.int .i64 (countN l : Int)) ∧ Below w.heap.size w w' := by
  have HK := Lib.hid (rising_any m hS hm a cap l w hr hl hlen)
  have hls := len_sk l
  clear hr hl
  go_enter Try.func20, Try.ntmps20
  go_wp2_with fail
  refine HK.out.mono ?_
  rintro e w1 ⟨rfl, hb1, hlt, hH⟩
  have HC := Lib.hid (compact_any w.heap.size l.length l l.length hls.symm w1 hH (by omega) (by omega) hlt)
  have HB := Lib.hid hb1
  clear hb1 hH hlt hls
  go_wp2_with fail
  refine HC.out.mono ?_
  rintro e w2 ⟨rfl, hb2⟩
  have HB2 := Lib.hid (HB.out.trans hb2)
  clear hb2
  go_wp2
  go_ret
  exact ⟨rfl, HB2.out⟩
end Go.Proofs.Ytbebnhadgbkepaa
