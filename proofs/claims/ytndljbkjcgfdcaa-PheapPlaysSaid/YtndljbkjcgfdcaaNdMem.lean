/- Cells with numbers in memory: a struct of four parts, and a row of cells of six parts each that grows; over calls that turn other blocks. -/
import Derived.Test.YtndljbkjcgfdcaaNdPure
import Derived.Test.YtndljbkjcgfdcaaInts
import Derived.Test.YtndljbkjcgfdcaaCells
import Derived.WalkMore
import Derived.Maps.AppendAt
import Derived.StillTailTactics
import Derived.Deep.RegionWith
import Derived.Deep.QuietTactic
import Derived.Deep.Cut
import Derived.Deep.CutRange
import Derived.BigQuiet
import Derived.BigRegion
namespace Go.Proofs.Ytndljbkjcgfdcaa
open Go.RowKit Go.ChangeShapes NdPure
/-- Nothing but the blocks of O is otherwise; new ones may lie behind. -/
def Turn (O : Nat → Prop) (w w' : World) : Prop :=
  w'.os = w.os ∧ w'.tape = w.tape ∧ w'.output = w.output ∧ w.heap.size ≤ w'.heap.size ∧ ∀ k, k < w.heap.size → ¬ O k → w'.heap[k]? = w.heap[k]?
theorem Turn.refl (O : Nat → Prop) (w : World) : Turn O w w := ⟨rfl, rfl, rfl, Nat.le_refl _, fun _ _ _ => rfl⟩
theorem Turn.trans {O O' : Nat → Prop} {a b c : World} (h : Turn O a b) (k : Turn O' b c) (ho : ∀ x, O' x → O x ∨ a.heap.size ≤ x) : Turn O a c := by
  obtain ⟨h1, h2, h3, h4, h5⟩ := h
  obtain ⟨k1, k2, k3, k4, k5⟩ := k
  refine ⟨k1.trans h1, k2.trans h2, k3.trans h3, Nat.le_trans h4 k4, fun i hi e => (k5 i (Nat.lt_of_lt_of_le hi h4) (fun e2 => ?_)).trans (h5 i hi e)⟩
  rcases ho i e2 with e3 | e3
  · exact e e3
  · omega
theorem Turn.grown {O : Nat → Prop} {w w' : World} {row : Option Nat} (h : w.grownBy w' row) (ho : ∀ k, row = some k → O k) : Turn O w w' :=
  ⟨h.os, h.tape, h.output, h.size, fun k hk e => h.block k hk (fun e2 => e (ho k e2.symm))⟩
theorem Turn.cell {O : Nat → Prop} {b : Nat} (w : World) (i : Nat) (v : Value) (ho : O b) : Turn O w (w.setCell ⟨b, i, none⟩ v) :=
  ⟨rfl, rfl, rfl, by simp, fun k _ hk => Below.heap_setCell _ _ _ k (fun e => hk (by rw [show k = b from e]; exact ho))⟩
theorem Turn.ofBelow {O : Nat → Prop} {w w' : World} (h : Below w.heap.size w w') : Turn O w w' := ⟨h.os, h.tape, h.output, h.size, fun k hk _ => h.block k hk⟩
theorem Turn.drawn {O : Nat → Prop} {w w' : World} (h : Turn O w w') (k : Nat) : Turn O w (w'.drewN k) := h
theorem Turn.below {O : Nat → Prop} {M : Nat} {w w' : World} (h : Turn O w w') (hs : M ≤ w.heap.size) (ho : ∀ k, O k → M ≤ k) : Below M w w' := by
  obtain ⟨h1, h2, h3, h4, h5⟩ := h
  exact ⟨h1, h2, h3, h4, fun k hk => h5 k (by omega) (fun e => by have := ho k e; omega)⟩
theorem Turn.size {O : Nat → Prop} {w w' : World} (h : Turn O w w') : w.heap.size ≤ w'.heap.size := h.2.2.2.1
/-- Four cells of one block. -/
def FourAt (N : Nat) (w : World) (a b c d : Value) : Prop := RowIs N w [a, b, c, d]
theorem FourAt.cells {N : Nat} {w : World} {a b c d : Value} (h : FourAt N w a b c d) :
    (w.cell? ⟨N, 0, none⟩ = some a ∧ w.cell? ⟨N, 1, none⟩ = some b ∧ w.cell? ⟨N, 2, none⟩ = some c ∧ w.cell? ⟨N, 3, none⟩ = some d) ∧
    (w.frozen? ⟨N, 0, none⟩ = false ∧ w.frozen? ⟨N, 1, none⟩ = false ∧ w.frozen? ⟨N, 2, none⟩ = false ∧ w.frozen? ⟨N, 3, none⟩ = false) :=
  ⟨⟨(h 0 (by simp)).1, (h 1 (by simp)).1, (h 2 (by simp)).1, (h 3 (by simp)).1⟩, (h 0 (by simp)).2, (h 1 (by simp)).2, (h 2 (by simp)).2, (h 3 (by simp)).2⟩
theorem FourAt.lt {N : Nat} {w : World} {a b c d : Value} (h : FourAt N w a b c d) : N < w.heap.size := RowIs.lt h (by simp)
theorem FourAt.new (w : World) (a b c d : Value) (T : TypeId) : FourAt w.heap.size (w.alloc (.cells #[a, b, c, d] T)) a b c d := by
  intro i hi
  match i, hi with
  | 0, _ => exact ⟨by simp, by simp⟩
  | 1, _ => exact ⟨by simp, by simp⟩
  | 2, _ => exact ⟨by simp, by simp⟩
  | 3, _ => exact ⟨by simp, by simp⟩
theorem row_same {b : Nat} {w w' : World} {vs : List Value} (h : RowIs b w vs) (hk : w'.heap[b]? = w.heap[b]?) : RowIs b w' vs :=
  fun i hi => ⟨(World.cell?_of_block hk).trans (h i hi).1, (World.frozen?_of_block hk).trans (h i hi).2⟩
theorem owns_same {w w' : World} {B : Nat} {e : TypeId} {size n : Nat} {v : Value} {xs : List Value} (h : w.ownsRow B e size v n xs) (hk : ∀ k, v.ownBlock = some k → w'.heap[k]? = w.heap[k]?) : w'.ownsRow B e size v n xs := by
  obtain ⟨h1, h2 | ⟨g, cap, cur, rfl, h3, h4, h5⟩⟩ := h
  · exact ⟨h1, Or.inl h2⟩
  · exact ⟨h1, Or.inr ⟨g, cap, cur, rfl, h3, (hk g rfl).trans h4, h5⟩⟩
/-- A cell: what is in it, whether it is given, and the number behind it. -/
def cellV (c : Nd × Bool × Int) : List Value := [.int .i64 c.1.v, .int .i64 c.1.below, .int .i64 c.1.next, .int .i64 c.1.back, .bool c.2.1, .int .i64 c.2.2]
def flat (cs : List (Nd × Bool × Int)) : List Value := cs.flatMap cellV
theorem flat_cons (c : Nd × Bool × Int) (cs : List (Nd × Bool × Int)) : flat (c :: cs) = .int .i64 c.1.v :: .int .i64 c.1.below :: .int .i64 c.1.next :: .int .i64 c.1.back :: .bool c.2.1 :: .int .i64 c.2.2 :: flat cs := rfl
theorem flat_snoc (cs : List (Nd × Bool × Int)) (c : Nd × Bool × Int) : flat (cs ++ [c]) = flat cs ++ [.int .i64 c.1.v, .int .i64 c.1.below, .int .i64 c.1.next, .int .i64 c.1.back, .bool c.2.1, .int .i64 c.2.2] := by
  unfold flat
  rw [List.flatMap_append]
  rfl
theorem flat_len (cs : List (Nd × Bool × Int)) : (flat cs).length = cs.length * 6 := by
  induction cs with
  | nil => rfl
  | cons c cs ih => rw [flat_cons]; simp [ih]; omega
theorem flat_at {cs : List (Nd × Bool × Int)} {n : Nat} {c : Nd × Bool × Int} (h : cs[n]? = some c) :
    (flat cs)[n * 6]? = some (.int .i64 c.1.v) ∧ (flat cs)[n * 6 + 1]? = some (.int .i64 c.1.below) ∧ (flat cs)[n * 6 + 2]? = some (.int .i64 c.1.next) ∧ (flat cs)[n * 6 + 3]? = some (.int .i64 c.1.back) ∧ (flat cs)[n * 6 + 4]? = some (.bool c.2.1) ∧ (flat cs)[n * 6 + 5]? = some (.int .i64 c.2.2) := by
  induction cs generalizing n with
  | nil => simp at h
  | cons d cs ih =>
    rw [flat_cons]
    cases n with
    | zero => simp at h; subst h; exact ⟨rfl, rfl, rfl, rfl, rfl, rfl⟩
    | succ n =>
      have := ih (n := n) (by simpa using h)
      rw [show (n + 1) * 6 = n * 6 + 1 + 1 + 1 + 1 + 1 + 1 by omega]
      simpa using this
theorem flat_lay {cs : List (Nd × Bool × Int)} {n : Nat} {c : Nd × Bool × Int} (h : cs[n]? = some c) (x : Nd) :
    ((((flat cs).set (n * 6) (.int .i64 x.v)).set (n * 6 + 1) (.int .i64 x.below)).set (n * 6 + 2) (.int .i64 x.next)).set (n * 6 + 3) (.int .i64 x.back) = flat (cs.set n (x, c.2)) := by
  induction cs generalizing n with
  | nil => simp at h
  | cons d cs ih =>
    cases n with
    | zero => simp at h; subst h; rfl
    | succ n =>
      rw [List.set_cons_succ, flat_cons, flat_cons, ← ih (n := n) (by simpa using h), show (n + 1) * 6 = n * 6 + 1 + 1 + 1 + 1 + 1 + 1 by omega]
      rfl
theorem flat_set {cs : List (Nd × Bool × Int)} {n : Nat} (h : n < cs.length) (c : Nd × Bool × Int) :
    ((((((flat cs).set (n * 6) (.int .i64 c.1.v)).set (n * 6 + 1) (.int .i64 c.1.below)).set (n * 6 + 2) (.int .i64 c.1.next)).set (n * 6 + 3) (.int .i64 c.1.back)).set (n * 6 + 4) (.bool c.2.1)).set (n * 6 + 5) (.int .i64 c.2.2) = flat (cs.set n c) := by
  induction cs generalizing n with
  | nil => simp at h
  | cons d cs ih =>
    cases n with
    | zero => rfl
    | succ n =>
      rw [List.set_cons_succ, flat_cons, flat_cons, ← ih (n := n) (by simpa using h), show (n + 1) * 6 = n * 6 + 1 + 1 + 1 + 1 + 1 + 1 by omega]
      rfl
/-- From the number f on the free list goes through the cells. -/
def Chain (cs : List (Nd × Bool × Int)) : Int → List Nat → Prop
  | _, [] => True
  | f, n :: r => f = (n : Int) ∧ ∃ c, cs[n]? = some c ∧ Chain cs c.2.2 r
theorem chain_set {cs : List (Nd × Bool × Int)} {k : Nat} {c : Nd × Bool × Int} : ∀ {l : List Nat} {f : Int}, Chain cs f l → k ∉ l → Chain (cs.set k c) f l
  | [], _, _, _ => trivial
  | n :: r, _, ⟨h1, d, h2, h3⟩, hn => by
    have hne : ¬ k = n := fun e => hn (by subst e; exact List.mem_cons_self)
    exact ⟨h1, d, by rw [List.getElem?_set, if_neg hne]; exact h2, chain_set h3 (fun e => hn (List.mem_cons_of_mem _ e))⟩
theorem chain_lay {cs : List (Nd × Bool × Int)} {k : Nat} {c : Nd × Bool × Int} (hk : cs[k]? = some c) (x : Nd) (b : Bool) : ∀ {l : List Nat} {f : Int}, Chain cs f l → Chain (cs.set k (x, b, c.2.2)) f l
  | [], _, _ => trivial
  | n :: r, _, ⟨h1, d, h2, h3⟩ => by
    have hlt := (List.getElem?_eq_some_iff.1 hk).1
    by_cases e : k = n
    · subst e
      rw [hk] at h2
      cases h2
      exact ⟨h1, (x, b, c.2.2), by simp [hlt], chain_lay hk x b h3⟩
    · exact ⟨h1, d, by rw [List.getElem?_set, if_neg e]; exact h2, chain_lay hk x b h3⟩
/-- The cells tell of S; the free list begins at f. -/
def Fits (cs : List (Nd × Bool × Int)) (f : Int) (S : St) : Prop :=
  cs.length = S.I.length ∧ (∀ (n : Nat) (c : Nd × Bool × Int), cs[n]? = some c → S.I[n]? = some c.2.1 ∧ (c.2.1 = true → S.X[n]? = some c.1)) ∧ Chain cs f S.F
/-- At block b the parts of an arena, its cells in the blocks of O beside. -/
def ArAt (O : Nat → Prop) (b : Nat) (w : World) (N : Nat) (S : St) : Prop :=
  N ≤ 1048576 ∧ GoodS N S ∧ ∃ v f cs, Fits cs f S ∧ FourAt b w (.int .i64 (N : Int)) v (.int .i64 (liveN S : Int)) (.int .i64 f) ∧ w.ownsRow (b + 1) 76 6 v cs.length (flat cs) ∧ ∀ k, O k ↔ k = b ∨ v.ownBlock = some k
theorem ArAt.lt {O : Nat → Prop} {b : Nat} {w : World} {N : Nat} {S : St} (h : ArAt O b w N S) : ∀ k, O k → b ≤ k ∧ k < w.heap.size := by
  obtain ⟨-, -, v, f, cs, -, h1, h2, h3⟩ := h
  intro k hk
  rcases (h3 k).1 hk with rfl | hk
  · exact ⟨Nat.le_refl _, h1.lt⟩
  · have := h2.lt k hk
    omega
theorem ArAt.past {O O' : Nat → Prop} {b : Nat} {w w' : World} {N : Nat} {S : St} (h : ArAt O b w N S) (ht : Turn O' w w') (hd : ∀ k, O k → ¬ O' k) : ArAt O b w' N S := by
  have hl := h.lt
  obtain ⟨h0, hg, v, f, cs, h1, h2, h3, h4⟩ := h
  have hk : ∀ k, O k → w'.heap[k]? = w.heap[k]? := fun k e => ht.2.2.2.2 k (hl k e).2 (hd k e)
  exact ⟨h0, hg, v, f, cs, h1, row_same h2 (hk b ((h4 b).2 (Or.inl rfl))), owns_same h3 (fun k e => hk k ((h4 k).2 (Or.inr e))), h4⟩
theorem ArAt.keep {O : Nat → Prop} {b : Nat} {w w' : World} {N : Nat} {S : St} (h : ArAt O b w N S) (hb : Below w.heap.size w w') : ArAt O b w' N S := h.past (Turn.ofBelow (O := fun _ => False) hb) (fun _ _ e => e)
theorem ArAt.drawn {O : Nat → Prop} {b : Nat} {w : World} {N : Nat} {S : St} (h : ArAt O b w N S) (k : Nat) : ArAt O b (w.drewN k) N S := h.keep (below_drewN (Below.refl _ _) k)
theorem arAt_new (w : World) (N : Nat) (hN : N ≤ 1048576) (T : TypeId) : ArAt (fun k => k = w.heap.size) w.heap.size (w.alloc (.cells #[.int .i64 (N : Int), .slice none 0 0, .int .i64 0, .int .i64 0] T)) N emptyS :=
  ⟨hN, good_empty N, .slice none 0 0, 0, [], ⟨rfl, fun n c h => by simp at h, trivial⟩, FourAt.new w _ _ _ _ T, World.ownsRow_nil _ _ _ _, fun k => by simp [Value.ownBlock]⟩
/-- Where there are cells they lie in a block of their own. -/
theorem owns_slice {w : World} {B n : Nat} {e : TypeId} {size : Nat} {v : Value} {xs : List Value} (h : w.ownsRow B e size v n xs) (hn : 0 < n) : ∃ g cap, v = .slice (some ⟨g, 0, none⟩) n cap ∧ B ≤ g ∧ g < w.heap.size := by
  have hl := h.lt
  obtain ⟨h1, ⟨h2, h3⟩ | ⟨g, cap, cur, rfl, h3, h4, h5⟩⟩ := h
  · omega
  · exact ⟨g, cap, rfl, h3, (hl g rfl).2⟩
theorem owns_any {w : World} {B n : Nat} {e : TypeId} {size : Nat} {v : Value} {xs : List Value} (h : w.ownsRow B e size v n xs) : ∃ q cap, v = .slice q n cap := by
  obtain ⟨h1, ⟨h2, h3⟩ | ⟨g, cap, cur, rfl, h3, h4, h5⟩⟩ := h
  · exact ⟨none, 0, by rw [h2, h3]⟩
  · exact ⟨_, cap, rfl⟩
/-- What is read of one cell. -/
theorem cell_at {w : World} {B g cap n : Nat} {cs : List (Nd × Bool × Int)} {c : Nd × Bool × Int} (h : w.ownsRow B 76 6 (.slice (some ⟨g, 0, none⟩) cs.length cap) cs.length (flat cs)) (hc : cs[n]? = some c) :
    (w.cell? ⟨g, n * 6, none⟩ = some (.int .i64 c.1.v) ∧ w.cell? ⟨g, n * 6 + 1, none⟩ = some (.int .i64 c.1.below) ∧ w.cell? ⟨g, n * 6 + 2, none⟩ = some (.int .i64 c.1.next) ∧ w.cell? ⟨g, n * 6 + 3, none⟩ = some (.int .i64 c.1.back) ∧ w.cell? ⟨g, n * 6 + 4, none⟩ = some (.bool c.2.1) ∧ w.cell? ⟨g, n * 6 + 5, none⟩ = some (.int .i64 c.2.2)) ∧
    (w.frozen? ⟨g, n * 6, none⟩ = false ∧ w.frozen? ⟨g, n * 6 + 1, none⟩ = false ∧ w.frozen? ⟨g, n * 6 + 2, none⟩ = false ∧ w.frozen? ⟨g, n * 6 + 3, none⟩ = false ∧ w.frozen? ⟨g, n * 6 + 4, none⟩ = false ∧ w.frozen? ⟨g, n * 6 + 5, none⟩ = false) := by
  have hlt := (List.getElem?_eq_some_iff.1 hc).1
  obtain ⟨h0, h1, h2, h3, h4, h5⟩ := flat_at hc
  exact ⟨⟨(h.cellAt _ (by omega)).trans h0, (h.cellAt _ (by omega)).trans h1, (h.cellAt _ (by omega)).trans h2, (h.cellAt _ (by omega)).trans h3, (h.cellAt _ (by omega)).trans h4, (h.cellAt _ (by omega)).trans h5⟩, h.frozenAt _, h.frozenAt _, h.frozenAt _, h.frozenAt _, h.frozenAt _, h.frozenAt _⟩
end Go.Proofs.Ytndljbkjcgfdcaa
