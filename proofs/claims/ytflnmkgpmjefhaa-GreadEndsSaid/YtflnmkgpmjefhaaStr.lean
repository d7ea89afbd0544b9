/- Texts as values: how one lies in a cell, a piece of one, a byte of one held against a number; a builder over a call that makes memory. -/
import Derived.Test.YtflnmkgpmjefhaaList
import Derived.Lib.Bytealg
import Derived.Lib.Builder
namespace Go.Proofs.Ytflnmkgpmjefhaa
open Go.RowKit Go.ChangeShapes
/-- A text, as it lies in a cell. -/
def encS (l : List UInt8) : Value := .string ⟨l.toArray⟩
theorem mk_self (s : ByteArray) : (⟨s.data.toList.toArray⟩ : ByteArray) = s := by rw [Array.toArray_toList]
theorem infoStr : (Try.prog.info? 9).map (fun i => (i.zero, i.size, i.bytes)) = some (some (.string ⟨#[]⟩), 1, 16) := by kernel_rfl
namespace Str
theorem extract_mid (s : ByteArray) (f k : Nat) : (s.extract f k).data.toList = (s.data.toList.drop f).take (k - f) := by
  rw [Lib.extract_eq]
theorem extract_rest (s : ByteArray) (f : Nat) : (s.extract f s.size).data.toList = s.data.toList.drop f := by
  rw [extract_mid, List.take_of_length_le]
  rw [List.length_drop, ← Lib.size_eq]; omega
theorem empty_no {R : ByteArray} (h : R.data.toList ≠ []) : R.toList.isEmpty = false := by
  rw [Lib.toList_data]
  cases hh : R.data.toList with
  | nil => exact absurd hh h
  | cons a b => rfl
theorem empty_yes {R : ByteArray} (h : R.data.toList = []) : R.toList.isEmpty = true := by rw [Lib.toList_data, h]; rfl
theorem byte_yes {c : UInt8} {n : Nat} (hn : n < 256) (h : c = UInt8.ofNat n) : (((c.toNat : Nat) : Int) == (n : Int)) = true := by
  subst h
  have : (UInt8.ofNat n).toNat = n := by simp; omega
  rw [this]; exact beq_self_eq_true _
theorem byte_no {c : UInt8} {n : Nat} (hn : n < 256) (h : c ≠ UInt8.ofNat n) : (((c.toNat : Nat) : Int) == (n : Int)) = false := by
  rw [beq_eq_false_iff_ne]
  intro e
  apply h
  apply UInt8.toNat.inj
  have : (UInt8.ofNat n).toNat = n := by simp; omega
  rw [this]; omega
theorem mem_at (s : ByteArray) (k : Nat) (hk : k < s.size) : s[k] ∈ s.data.toList := Array.getElem_mem_toList (xs := s.data) (by simpa using hk)
theorem cat_bytes (x y : List UInt8) : (⟨x.toArray⟩ : ByteArray) ++ ⟨y.toArray⟩ = ⟨(x ++ y).toArray⟩ := ByteArray.mk_append_mk x y
theorem builder_on {T e : TypeId} {B b : Nat} {bs : List Value} {w w' : World} (h : Lib.IsBuilder T e B b bs w) (hb : Below w.heap.size w w') : Lib.IsBuilder T e B b bs w' := by
  have one : ∀ p, Lib.BuilderAt T e B b p bs w → Lib.BuilderAt T e B b p bs w' := fun p h => by
    have hlt := h.lt
    obtain ⟨h1, v, h2, h3, h4⟩ := h
    exact ⟨h1, v, (hb.block b hlt).trans h2, owns_below h3 hb, h4⟩
  rcases h with h | h
  · exact Or.inl (one _ h)
  · exact Or.inr (one _ h)
end Str
end Go.Proofs.Ytflnmkgpmjefhaa
