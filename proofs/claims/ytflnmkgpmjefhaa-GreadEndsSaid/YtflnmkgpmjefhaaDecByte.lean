/- Plain facts on a text's bytes that are digits, or not, one behind the other. No function of the program is named. -/
import Derived.Test.YtflnmkgpmjefhaaDecPure
import Derived.Test.YtflnmkgpmjefhaaKit
import Derived.Lib.Strings
namespace Go.Proofs.Ytflnmkgpmjefhaa
open Go.RowKit Go.ChangeShapes DecPure
/-- Over so much of s all are digits. -/
def DigTo (s : ByteArray) (pos : Nat) : Prop := pos ≤ s.size ∧ ∀ c ∈ s.data.toList.take pos, dig c = true
theorem take_next (s : ByteArray) (k : Nat) (h : k < s.size) : s.data.toList.take (k + 1) = s.data.toList.take k ++ [s[k]] := by
  rw [List.take_succ_eq_append_getElem (by simpa using h)]; rfl
theorem digTo_next {s : ByteArray} {pos : Nat} (h : DigTo s pos) (hp : pos < s.size) (hd : dig s[pos] = true) : DigTo s (pos + 1) := by
  refine ⟨hp, fun c hc => ?_⟩
  rw [take_next s pos hp, List.mem_append] at hc
  rcases hc with hc | hc
  · exact h.2 c hc
  · simp at hc; rw [hc]; exact hd
theorem mem_at (s : ByteArray) (pos : Nat) (hp : pos < s.size) : s[pos] ∈ s.data.toList := Array.getElem_mem_toList (xs := s.data) (by simpa using hp)
theorem plain_no {s : ByteArray} {pos : Nat} (hp : pos < s.size) (hd : dig s[pos] = false) : plainB s.data.toList = false := by
  cases h : plainB s.data.toList with
  | false => rfl
  | true => have := plain_dig h _ (mem_at s pos hp); rw [hd] at this; cases this
/-- The rune at a byte that is no digit is none. -/
theorem rune_no (s : ByteArray) (pos : Nat) (hp : pos < s.size) (hd : dig s[pos] = false) : (Utf8.decode s pos).1 < 48 ∨ 57 < (Utf8.decode s pos).1 := by
  by_cases ha : (s[pos]'hp).toNat < 128
  · rw [decode_ascii s pos hp ha]
    rcases (dig_not _).1 hd with h | h
    · exact Or.inl h
    · exact Or.inr h
  · have := (decode_high s pos hp (by omega)).1
    right; omega
theorem digTo_all {s : ByteArray} {pos : Nat} (hk : pos = s.size) (h : DigTo s pos) : ∀ c ∈ s.data.toList, dig c = true := by
  intro c hc
  refine h.2 c ?_
  rw [hk, List.take_of_length_le (by simp)]
  exact hc
theorem plain_lone {s : ByteArray} (e : s.toList = [48]) : plainB s.data.toList = true := by rw [← Lib.toList_data, e]; rfl
theorem plain_void {s : ByteArray} (e : s.toList = []) : plainB s.data.toList = false := by rw [← Lib.toList_data, e]; rfl
theorem byte_ne (c : UInt8) : (((c.toNat : Nat) : Int) != 48) = !(c == 48) := by
  by_cases h : c = 48
  · subst h; decide
  · have h1 : (c == 48) = false := by simpa using h
    have h2 : ((c.toNat : Nat) : Int) ≠ 48 := fun e => h (UInt8.toNat.inj (by rw [show c.toNat = 48 by omega]; rfl))
    rw [h1, Bool.not_false, bne_iff_ne]
    exact h2
theorem size_pos {s : ByteArray} (e : ¬ s.toList = []) : 0 < s.size := by
  rw [Lib.toList_data] at e
  have := List.length_pos_iff.2 e
  simpa using this
theorem plain_head {s : ByteArray} (h : ∀ c ∈ s.data.toList, dig c = true) (e1 : ¬ s.toList = [48]) (e2 : ¬ s.toList = []) (e3 : 0 < s.size) : plainB s.data.toList = !(s[0] == 48) := by
  rw [Lib.toList_data] at e1 e2
  have hh : s.data.toList.head? = some s[0] := by
    rw [List.head?_eq_getElem?, List.getElem?_eq_getElem (by simpa using e3)]; rfl
  cases hb : (s[0] == 48) with
  | true =>
    rw [Bool.not_true, Bool.eq_false_iff, Ne, plain_iff]
    rintro ⟨-, h2 | ⟨-, h2⟩⟩
    · exact e1 h2
    · rw [hh] at h2; exact h2 (by rw [beq_iff_eq.1 hb])
  | false =>
    rw [Bool.not_false, plain_iff]
    exact ⟨h, Or.inr ⟨e2, by rw [hh]; intro e; rw [Option.some.inj e] at hb; cases hb⟩⟩
end Go.Proofs.Ytflnmkgpmjefhaa
