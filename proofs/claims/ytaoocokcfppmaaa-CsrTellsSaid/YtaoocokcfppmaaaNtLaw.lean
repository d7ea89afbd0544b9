/- What both News answer, told in one form for a graph and for none. -/
import Derived.Test.YtaoocokcfppmaaaNtNew
import Derived.Test.YtaoocokcfppmaaaNtRef3
namespace Go.Proofs.Ytaoocokcfppmaaa
open Go.RowKit Go.ChangeShapes EdPure NtPure NumPure
/-- A graph, or why there is none. -/
def Kind (n : Int) (l : List Ed) (p : Option Addr) (N : Nat) (M : List Ed) : Prop :=
  (errN n l).1 ≠ 0 ∧ p = none ∧ N = 0 ∧ M = [] ∨ errN n l = (0, 0) ∧ (∃ g, p = some ⟨g, 0, none⟩) ∧ n = N ∧ mergeE l = some M
def NewU (n : Int) (l : List Ed) (w : World) (e : Ending) (w' : World) : Prop :=
  Below w.heap.size w w' ∧ ∃ (p : Option Addr) (N : Nat) (M : List Ed), e = .returned (.tuple #[.pointer p, .int .i64 (errN n l).1, .int .i64 (errN n l).2]) ∧ NetAt p N M w' ∧ (N ≤ 4096 ∧ M.length ≤ 1048576 ∧ GoodN N M) ∧ Kind n l p N M
theorem GoodN.nil (n : Int) : GoodN n [] := ⟨GoodM.nil, by simp, by simp [allW]⟩
theorem newU_any (n : Int) (a : Option Addr) (c : Nat) (l : List Ed) (hI : InL l) (w : World) (hR : ReadsE w.heap.size w a l) :
    Calls Try.prog 6 #[.int .i64 n, .slice a l.length c] w fun e w' => NewU n l w e w' := by
  refine (newNet_any n a c l hI w hR).mono ?_
  rintro e w' ⟨hb, ⟨hne, rfl⟩ | ⟨hz, N, M, g, rfl, hN, hg, h1, h2, hm, rfl, hn⟩⟩
  · exact ⟨hb, none, 0, [], rfl, NetAt.nil _, ⟨by omega, by simp, GoodN.nil _⟩, Or.inl ⟨hne, rfl, rfl, rfl⟩⟩
  · exact ⟨hb, some ⟨g, 0, none⟩, N, M, by rw [hz], hn, ⟨hN, by omega, hg⟩, Or.inr ⟨hz, ⟨g, rfl⟩, rfl, hm⟩⟩
def RefU (n : Int) (l : List Ed) (w : World) (e : Ending) (w' : World) : Prop :=
  Below w.heap.size w w' ∧ ∃ (x : Int) (q : Option Addr) (c : Nat) (M : List Ed), e = .returned (.agg #[.int .i64 x, .slice q M.length c, .int .i64 (errN n l).1, .int .i64 (errN n l).2]) ∧ ReadsE w'.heap.size w' q M ∧
    ((errN n l).1 ≠ 0 ∧ x = 0 ∧ M = [] ∨ errN n l = (0, 0) ∧ x = n ∧ mergeE l = some M)
theorem refU_any (n : Int) (a : Option Addr) (c : Nat) (l : List Ed) (hl : l.length ≤ 100000) (hI : InL l) (w : World) (hR : ReadsE w.heap.size w a l) :
    Calls Try.prog 14 #[.int .i64 n, .slice a l.length c] w fun e w' => RefU n l w e w' := by
  refine (refNewN_any n a c l hl hI w hR).mono ?_
  rintro e w' ⟨hb, ⟨hne, rfl⟩ | ⟨hz, M, q, c', hm, rfl, hr⟩⟩
  · exact ⟨hb, 0, none, 0, [], rfl, Or.inl rfl, Or.inl ⟨hne, rfl, rfl⟩⟩
  · exact ⟨hb, n, q, c', M, by rw [hz], hr, Or.inr ⟨hz, rfl, hm⟩⟩
end Go.Proofs.Ytaoocokcfppmaaa
