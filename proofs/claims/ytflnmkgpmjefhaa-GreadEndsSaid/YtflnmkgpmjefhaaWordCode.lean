/- Contracts of word's small functions: whether a text is a word, whether all its bytes are seen, the place of a key. -/
import Derived.Test.YtflnmkgpmjefhaaWordPure
import Derived.Test.YtflnmkgpmjefhaaShIndexByte
import Derived.Test.YtflnmkgpmjefhaaShIndexS
import Derived.Test.YtflnmkgpmjefhaaStr
namespace Go.Proofs.Ytflnmkgpmjefhaa.Wd
open Go.RowKit Go.ChangeShapes WordPure Str
theorem idx_cases (l : List UInt8) (c : UInt8) : (Lib.indexByte l c < 0 ∧ NoC c l) ∨ (0 ≤ Lib.indexByte l c ∧ ¬ NoC c l) := by
  induction l with
  | nil => exact Or.inl ⟨by unfold Lib.indexByte; decide, fun c hc => by simp at hc⟩
  | cons b r ih =>
    by_cases hb : b = c
    · refine Or.inr ⟨?_, fun h => h b (by simp) hb⟩
      unfold Lib.indexByte; rw [if_pos (by simpa using hb)]; decide
    · have hbe : (b == c) = false := beq_eq_false_iff_ne.2 hb
      have hu : Lib.indexByte (b :: r) c = if Lib.indexByte r c == -1 then -1 else Lib.indexByte r c + 1 := by
        conv => lhs; unfold Lib.indexByte
        rw [hbe]; rfl
      have hge := Lib.indexByte_ge r c
      rcases ih with ⟨h1, h2⟩ | ⟨h1, h2⟩
      · refine Or.inl ⟨?_, fun x hx => ?_⟩
        · rw [hu, if_pos (by rw [beq_iff_eq]; omega)]; decide
        · rw [List.mem_cons] at hx
          rcases hx with hx | hx
          · rw [hx]; exact hb
          · exact h2 x hx
      · refine Or.inr ⟨?_, fun h => h2 fun x hx => h x (by simp [hx])⟩
        rw [hu, if_neg (by rw [beq_iff_eq]; omega)]; omega
theorem word_false {l : List UInt8} (h : l = [] ∨ ¬ NoC 10 l ∨ ¬ NoC 32 l) : wordB l = false := by
  rw [Bool.eq_false_iff]
  intro e
  obtain ⟨h1, h2, h3⟩ := (word_iff l).1 e
  rcases h with h | h | h
  · exact h1 h
  · exact h h2
  · exact h h3
set_option maxHeartbeats 400000 in
theorem isWord_any (s : ByteArray) (w : World) :
    Calls Try.prog 46 #[.string s] w fun e w' => e = .returned (.bool (wordB s.data.toList)) ∧ Below w.heap.size w w' := by
  have H1 := Lib.hid (fun w => Try.strings_IndexByte s 10 w)
  have H2 := Lib.hid (fun w => Try.strings_IndexByte s 32 w)
  have e10 : (10 : Int).toNat.toUInt8 = 10 := rfl
  have e32 : (32 : Int).toNat.toUInt8 = 32 := rfl
  rw [e10] at H1
  rw [e32] at H2
  clear e10 e32
  by_cases h0 : s.data.toList = []
  · have HR : Hid (wordB s.data.toList = false) := Lib.hid (word_false (Or.inl h0))
    have t0 : s.toList = [] := by rw [Lib.toList_data]; exact h0
    clear h0
    go_enter Try.func46, Try.ntmps46
    go_wp2_with fail
    go_ret
    exact ⟨bool_ret HR.out.symm, Below.refl _ _⟩
  · have t0 : ¬ s.toList = [] := by rw [Lib.toList_data]; exact h0
    have HE : Hid (s.toList.isEmpty = false) := Lib.hid (by cases hh : s.toList with | nil => exact absurd hh t0 | cons a b => rfl)
    rcases idx_cases s.data.toList 10 with ⟨h1, h1'⟩ | ⟨h1, h1'⟩
    · rcases idx_cases s.data.toList 32 with ⟨h2, h2'⟩ | ⟨h2, h2'⟩
      · have HR : Hid (wordB s.data.toList = true) := Lib.hid ((word_iff _).2 ⟨h0, h1', h2'⟩)
        clear h0 h1' h2'
        generalize Lib.indexByte s.data.toList 10 = n1 at *
        generalize Lib.indexByte s.data.toList 32 = n2 at *
        go_enter Try.func46, Try.ntmps46
        go_wp2_with (first | (go_at_call 60; go_fit (H1.out _); rintro e w' ⟨rfl, rfl⟩) | (go_at_call 60; go_fit (H2.out _); rintro e w' ⟨rfl, rfl⟩))
        go_ret
        exact ⟨bool_ret (by rw [HR.out, HE.out]; rfl), Below.refl _ _⟩
      · have HR : Hid (wordB s.data.toList = false) := Lib.hid (word_false (Or.inr (Or.inr h2')))
        have g2 : ¬ Lib.indexByte s.data.toList 32 < 0 := by omega
        have HG2 := Lib.hid g2
        clear h0 h1' h2' h2
        generalize Lib.indexByte s.data.toList 10 = n1 at *
        generalize Lib.indexByte s.data.toList 32 = n2 at *
        go_enter Try.func46, Try.ntmps46
        go_wp2_with fail
        refine (H1.out _).mono ?_
        rintro e w' ⟨rfl, rfl⟩
        go_wp2_with fail
        refine (H2.out _).mono ?_
        rintro e w' ⟨rfl, rfl⟩
        go_wp2
        go_ret
        exact ⟨bool_ret (by rw [HR.out, HE.out, decide_eq_false (Int.not_lt.2 HG2.out)]; rfl), Below.refl _ _⟩
    · have HR : Hid (wordB s.data.toList = false) := Lib.hid (word_false (Or.inr (Or.inl h1')))
      have g1 : ¬ Lib.indexByte s.data.toList 10 < 0 := by omega
      clear h0 h1' h1
      generalize Lib.indexByte s.data.toList 10 = n1 at *
      go_enter Try.func46, Try.ntmps46
      go_wp2_with fail
      refine (H1.out _).mono ?_
      rintro e w' ⟨rfl, rfl⟩
      go_wp2
      go_ret
      exact ⟨bool_ret HR.out.symm, Below.refl _ _⟩
/-- So much of a text is seen. -/
def SeenTo (s : ByteArray) (k : Nat) : Prop := k ≤ s.size ∧ ∀ c ∈ s.data.toList.take k, vis c = true
theorem seenTo_next {s : ByteArray} {k : Nat} (h : SeenTo s k) (hk : k < s.size) (hd : vis s[k] = true) : SeenTo s (k + 1) := by
  refine ⟨hk, fun c hc => ?_⟩
  rw [take_succ' _ k (by rw [← Lib.size_eq]; exact hk), List.mem_append] at hc
  rcases hc with hc | hc
  · exact h.2 c hc
  · rw [List.mem_singleton.1 hc]; exact hd
theorem seenTo_all {s : ByteArray} {k : Nat} (h : SeenTo s k) (hk : ¬ k < s.size) : seenB s.data.toList = true := by
  have e := h.2
  rw [List.take_of_length_le (by rw [← Lib.size_eq]; omega)] at e
  exact List.all_eq_true.2 e
theorem seen_out {s : ByteArray} {k : Nat} (hk : k < s.size) (hd : vis s[k] = false) : seenB s.data.toList = false := seen_bad (Array.getElem_mem_toList (xs := s.data) (by simpa using hk)) hd
/-- The place of a key. -/
def keyI (l : List (List UInt8)) (x : List UInt8) : Int := Lib.idxOfS (l.map fun p => ⟨p.toArray⟩) ⟨x.toArray⟩
end Go.Proofs.Ytflnmkgpmjefhaa.Wd
