/- Texts that the laws of this seat stand on, part 37. -/
import Derived.Test.YtmohfmhkhldhnaaGreatPk34
import Derived.Test.YtmohfmhkhldhnaaGreatPk36
import Derived.Test.YtmohfmhkhldhnaaGreatPk9
import Derived.WideShapes
import Derived.ChangeReads
import Derived.Test.YtmohfmhkhldhnaaGreatPk1
import Derived.ChangeSame
import Derived.Lib.Join
import Derived.Lib.SlicesS
import Derived.Lib.Bytealg
/- What both News answer, told in one form for a graph and for none. -/
namespace Go.Proofs.YtmohfmhkhldhnaaGreat
open Go.RowKit Go.ChangeShapes EdPure NtPure NumPure
/-- A graph, or why there is none. -/
def Kind (n : Int) (l : List Ed) (p : Option Addr) (N : Nat) (M : List Ed) : Prop :=
  (errN n l).1 ≠ 0 ∧ p = none ∧ N = 0 ∧ M = [] ∨ errN n l = (0, 0) ∧ (∃ g, p = some ⟨g, 0, none⟩) ∧ n = N ∧ mergeE l = some M
def NewU (n : Int) (l : List Ed) (w : World) (e : Ending) (w' : World) : Prop :=
  Below w.heap.size w w' ∧ ∃ (p : Option Addr) (N : Nat) (M : List Ed), e = .returned (.tuple #[.pointer p, .int .i64 (errN n l).1, .int .i64 (errN n l).2]) ∧ NetAt p N M w' ∧ (N ≤ 4096 ∧ M.length ≤ 1048576 ∧ GoodN N M) ∧ Kind n l p N M
theorem GoodN.nil (n : Int) : GoodN n [] := ⟨GoodM.nil, by simp, by simp [allW]⟩
theorem newU_any (n : Int) (a : Option Addr) (c : Nat) (l : List Ed) (hI : InL l) (w : World) (hR : ReadsE w.heap.size w a l) :
    Calls Tryz.prog 6 #[.int .i64 n, .slice a l.length c] w fun e w' => NewU n l w e w' := by
  refine (newNet_any n a c l hI w hR).mono ?_
  rintro e w' ⟨hb, ⟨hne, rfl⟩ | ⟨hz, N, M, g, rfl, hN, hg, h1, h2, hm, rfl, hn⟩⟩
  · exact ⟨hb, none, 0, [], rfl, NetAt.nil _, ⟨by omega, by simp, GoodN.nil _⟩, Or.inl ⟨hne, rfl, rfl, rfl⟩⟩
  · exact ⟨hb, some ⟨g, 0, none⟩, N, M, by rw [hz], hn, ⟨hN, by omega, hg⟩, Or.inr ⟨hz, ⟨g, rfl⟩, rfl, hm⟩⟩
def RefU (n : Int) (l : List Ed) (w : World) (e : Ending) (w' : World) : Prop :=
  Below w.heap.size w w' ∧ ∃ (x : Int) (q : Option Addr) (c : Nat) (M : List Ed), e = .returned (.agg #[.int .i64 x, .slice q M.length c, .int .i64 (errN n l).1, .int .i64 (errN n l).2]) ∧ ReadsE w'.heap.size w' q M ∧
    ((errN n l).1 ≠ 0 ∧ x = 0 ∧ M = [] ∨ errN n l = (0, 0) ∧ x = n ∧ mergeE l = some M)
theorem refU_any (n : Int) (a : Option Addr) (c : Nat) (l : List Ed) (hl : l.length ≤ 100000) (hI : InL l) (w : World) (hR : ReadsE w.heap.size w a l) :
    Calls Tryz.prog 13 #[.int .i64 n, .slice a l.length c] w fun e w' => RefU n l w e w' := by
  refine (refNewN_any n a c l hl hI w hR).mono ?_
  rintro e w' ⟨hb, ⟨hne, rfl⟩ | ⟨hz, M, q, c', hm, rfl, hr⟩⟩
  · exact ⟨hb, 0, none, 0, [], rfl, Or.inl rfl, Or.inl ⟨hne, rfl, rfl⟩⟩
  · exact ⟨hb, n, q, c', M, by rw [hz], hr, Or.inr ⟨hz, rfl, hm⟩⟩
end Go.Proofs.YtmohfmhkhldhnaaGreat
/- An edge by value, a list of edges, as a statement's frame tells of them. -/
namespace Go.Proofs.YtmohfmhkhldhnaaGreat
open Go.RowKit Go.ChangeShapes Go.WideShapes EdPure
def EdIn (W : World) (a : Option Addr) (l : List Ed) : Prop := InL l ∧ ReadsE W.heap.size W a l
theorem arr3 {α : Type} {cs : Array α} (h : cs.size = 3) : ∃ c0 c1 c2, cs = #[c0, c1, c2] := by
  obtain ⟨l⟩ := cs
  match l, h with
  | [c0, c1, c2], _ => exact ⟨c0, c1, c2, rfl⟩
set_option maxRecDepth 20000 in
theorem open_edge {H : Type} {enc : TypeId × Value → H} {W : World} {base : Nat} {sp : Nat → Bool} {held : Bool} {r : Reach} {b0 : Nat} {v : Value} {d : DataW H} {ps : List MemPlace}
    (hv : Value.okWide Tryz.prog W r b0 54 v) (h : DataW.Trod enc Tryz.prog W base sp held 54 v d ps) :
    ∃ e : Ed, v = encE e ∧ InE e := by
  have hu := Tryz.underlying54
  have hC : Tryz.prog.cellsOf 54 = 3 := by kernel_rfl
  have ci : Tryz.prog.cellsOf 3 = 1 := by kernel_rfl
  have ci2 : Tryz.prog.cellsOf 2 = 1 := by kernel_rfl
  simp only [Value.okWide, hu] at hv
  obtain ⟨cs, rfl, hsz, _⟩ := hv
  obtain ⟨c0, c1, c2, rfl⟩ := arr3 (hsz.trans hC)
  obtain ⟨fuel, hf⟩ := h
  obtain ⟨xs, k, hk, hxy, _, hxl, hfl⟩ := DataW.trod_struct hu hf
  match xs, hxl with
  | [y0, y1, y2], _ =>
    have g0 := hfl 0 _ rfl
    have g1 := hfl 1 _ rfl
    have g2 := hfl 2 _ rfl
    simp [ci, ci2, Value.cells] at g0 g1 g2
    obtain ⟨n0, q0, -, w0⟩ := DataW.trod_int (t := 3) Tryz.underlying3 g0
    obtain ⟨n1, q1, -, w1⟩ := DataW.trod_int (t := 3) Tryz.underlying3 g1
    obtain ⟨n2, q2, -, w2⟩ := DataW.trod_int (t := 2) Tryz.underlying2 g2
    have q0' : c0 = .int .i64 n0 := by simpa using q0
    have q1' : c1 = .int .i64 n1 := by simpa using q1
    have q2' : c2 = .int .i64 n2 := by simpa using q2
    subst q0' q1' q2'
    exact ⟨(n0, n1, n2), rfl, bounds_i64 w0, bounds_i64 w1, bounds_i64 w2⟩
end Go.Proofs.YtmohfmhkhldhnaaGreat
/- An array of two numbers by value, as a statement's frame tells of it (as an element of Int × Int). -/
namespace Go.Proofs.YtmohfmhkhldhnaaGreat
open Go.ChangeShapes Go.WideShapes Go.RowKit
theorem arr2 {α : Type} {cs : Array α} (h : cs.size = 2) : ∃ c0 c1, cs = #[c0, c1] := by
  obtain ⟨l⟩ := cs
  match l, h with
  | [c0, c1], _ => exact ⟨c0, c1, rfl⟩
set_option maxRecDepth 20000 in
theorem open_pairV {H : Type} {enc : TypeId × Value → H} {W : World} {base : Nat} {sp : Nat → Bool} {held : Bool} {r : Reach} {b0 : Nat} {v : Value} {d : DataW H} {ps : List MemPlace}
    (hv : Value.okWide Tryz.prog W r b0 23 v) (h : DataW.Trod enc Tryz.prog W base sp held 23 v d ps) :
    ∃ p : Int × Int, v = .agg #[.int .i64 p.1, .int .i64 p.2] ∧ ((-9223372036854775808 ≤ p.1 ∧ p.1 ≤ 9223372036854775807) ∧ -9223372036854775808 ≤ p.2 ∧ p.2 ≤ 9223372036854775807) := by
  have hu := Tryz.underlying23
  have hC : Tryz.prog.cellsOf 23 = 2 := by kernel_rfl
  have hc : Tryz.prog.cellsOf 3 = 1 := by kernel_rfl
  simp only [Value.okWide, hu] at hv
  obtain ⟨cs, rfl, hsz, _⟩ := hv
  obtain ⟨c0, c1, rfl⟩ := arr2 (hsz.trans hC)
  obtain ⟨fuel, hf⟩ := h
  cases fuel with
  | zero => simp [DataW.trod] at hf
  | succ m =>
    rw [DataW.trod_step] at hf
    unfold DataW.trodStep at hf
    simp only [hu, Value.cells, hC, hc] at hf
    rw [if_pos (show [c0, c1].length = 2 from rfl), Option.map_eq_some_iff] at hf
    obtain ⟨ys, hy, -⟩ := hf
    rw [show List.range 2 = [0, 1] from rfl, List.mapM_cons, List.mapM_cons] at hy
    simp only [bind, Option.bind_eq_some_iff, pure, Option.some.injEq] at hy
    obtain ⟨y0, h0, ys1, ⟨y1, h1, -⟩, -⟩ := hy
    obtain ⟨n0, e0, -, w0⟩ := DataW.trod_int (t := 3) Tryz.underlying3 h0
    obtain ⟨n1, e1, -, w1⟩ := DataW.trod_int (t := 3) Tryz.underlying3 h1
    have e0' : c0 = .int .i64 n0 := by simpa using e0
    have e1' : c1 = .int .i64 n1 := by simpa using e1
    exact ⟨(n0, n1), by rw [e0', e1'], bounds_i64 w0, bounds_i64 w1⟩
end Go.Proofs.YtmohfmhkhldhnaaGreat
/- Plain facts on texts that are cut at one byte, and put together with it; words, lines. No program in sight. -/
namespace Go.Proofs.YtmohfmhkhldhnaaGreat.WordPure

/-- Such a byte does not stand in it. -/
def NoC (c : UInt8) (l : List UInt8) : Prop := ∀ x ∈ l, x ≠ c
/-- What stands between such bytes. -/
def splitC (c : UInt8) : List UInt8 → List (List UInt8)
  | [] => [[]]
  | x :: r => if x = c then [] :: splitC c r else match splitC c r with | p :: ps => (x :: p) :: ps | [] => [[x]]
theorem split_ne (c : UInt8) (l : List UInt8) : splitC c l ≠ [] := by
  cases l with
  | nil => simp [splitC]
  | cons x r =>
    unfold splitC
    split
    · simp
    · split <;> simp
theorem split_none {c : UInt8} {l : List UInt8} (h : NoC c l) : splitC c l = [l] := by
  induction l with
  | nil => rfl
  | cons x r ih =>
    unfold splitC
    rw [if_neg (h x (by simp)), ih fun y hy => h y (by simp [hy])]
theorem split_hit {c : UInt8} (p r : List UInt8) (h : NoC c p) : splitC c (p ++ c :: r) = p :: splitC c r := by
  induction p with
  | nil =>
    rw [List.nil_append]
    conv => lhs; unfold splitC
    rw [if_pos rfl]
  | cons x t ih =>
    rw [List.cons_append]
    conv => lhs; unfold splitC
    rw [if_neg (h x (by simp)), ih fun y hy => h y (by simp [hy])]
theorem split_len (c : UInt8) (l : List UInt8) : (splitC c l).length ≤ l.length + 1 := by
  induction l with
  | nil => simp [splitC]
  | cons x r ih =>
    unfold splitC
    split
    · simp; omega
    · revert ih
      cases splitC c r with
      | nil => intro _; simp
      | cons p ps => intro h; simp at h ⊢; omega
/-- No piece is longer than the text. -/
theorem split_mem (c : UInt8) (l : List UInt8) : ∀ p ∈ splitC c l, p.length ≤ l.length ∧ NoC c p := by
  induction l with
  | nil => intro p hp; simp [splitC] at hp; subst hp; exact ⟨Nat.le_refl _, fun x hx => by simp at hx⟩
  | cons x r ih =>
    intro p hp
    unfold splitC at hp
    by_cases hx : x = c
    · rw [if_pos hx, List.mem_cons] at hp
      rcases hp with hp | hp
      · subst hp; exact ⟨Nat.zero_le _, fun x hx => by simp at hx⟩
      · have := ih p hp; exact ⟨by have := this.1; simp; omega, this.2⟩
    · rw [if_neg hx] at hp
      have hne := split_ne c r
      revert ih hne hp
      cases splitC c r with
      | nil => intro _ _ h; exact absurd rfl h
      | cons q ps =>
        intro ih hp _
        rw [List.mem_cons] at hp
        rcases hp with hp | hp
        · subst hp
          have := ih q (by simp)
          refine ⟨by have := this.1; simp; omega, fun y hy => ?_⟩
          rw [List.mem_cons] at hy
          rcases hy with hy | hy
          · rw [hy]; exact hx
          · exact this.2 y hy
        · have := ih p (by simp [hp]); exact ⟨by have := this.1; simp; omega, this.2⟩
/-- Put together with one such byte between two. -/
def joinC (c : UInt8) : List (List UInt8) → List UInt8
  | [] => []
  | [p] => p
  | p :: q :: ps => p ++ c :: joinC c (q :: ps)
theorem join_cons (c : UInt8) (p : List UInt8) {ps : List (List UInt8)} (h : ps ≠ []) : joinC c (p :: ps) = p ++ c :: joinC c ps := by
  cases ps with
  | nil => exact absurd rfl h
  | cons q t => rfl
theorem join_snoc (c : UInt8) (ps : List (List UInt8)) (p : List UInt8) (h : ps ≠ []) : joinC c (ps ++ [p]) = joinC c ps ++ c :: p := by
  induction ps with
  | nil => exact absurd rfl h
  | cons q t ih =>
    by_cases ht : t = []
    · subst ht; rfl
    · rw [List.cons_append, join_cons c q (by simp), ih ht, join_cons c q ht, List.append_assoc]; rfl
theorem join_lib (c : UInt8) (ps : List (List UInt8)) : Lib.join ps [c] = joinC c ps := by
  induction ps with
  | nil => rfl
  | cons p t ih =>
    by_cases ht : t = []
    · subst ht; exact Lib.join_one _ _
    · rw [Lib.join_cons, join_cons c p ht, ← ih]
      cases t with
      | nil => exact absurd rfl ht
      | cons q r => rw [Lib.join_cons]; simp [Lib.joinTail]
theorem join_split (c : UInt8) (l : List UInt8) : joinC c (splitC c l) = l := by
  induction l with
  | nil => rfl
  | cons x r ih =>
    unfold splitC
    by_cases h : x = c
    · rw [if_pos h, join_cons c _ (split_ne c r), ih, h]; rfl
    · rw [if_neg h]
      have hne := split_ne c r
      revert ih hne
      cases splitC c r with
      | nil => intro _ h; exact absurd rfl h
      | cons p ps =>
        intro ih _
        by_cases hp : ps = []
        · subst hp
          show x :: p = x :: r
          rw [show p = r from ih]
        · show joinC c ((x :: p) :: ps) = x :: r
          rw [join_cons c _ hp, List.cons_append, ← join_cons c p hp, ih]
theorem split_join (c : UInt8) (ps : List (List UInt8)) (h : ps ≠ []) (hn : ∀ p ∈ ps, NoC c p) : splitC c (joinC c ps) = ps := by
  induction ps with
  | nil => exact absurd rfl h
  | cons p t ih =>
    by_cases ht : t = []
    · subst ht; exact split_none (hn p (by simp))
    · rw [join_cons c p ht, split_hit p _ (hn p (by simp)), ih ht fun q hq => hn q (by simp [hq])]
theorem join_len (c : UInt8) (ps : List (List UInt8)) : (joinC c ps).length ≤ Lib.lens ps + ps.length := by
  induction ps with
  | nil => simp [joinC]
  | cons p t ih =>
    by_cases ht : t = []
    · subst ht; simp [joinC, Lib.lens]
    · rw [join_cons c p ht]
      simp [Lib.lens] at ih ⊢
      omega
/-! ### A text that is gone over -/
/-- What is cut off so far: the pieces d; from f on there was no such byte up to k. -/
def At (c : UInt8) (l : List UInt8) (d : List (List UInt8)) (f k : Nat) : Prop :=
  f ≤ k ∧ k ≤ l.length ∧ splitC c l = d ++ splitC c (l.drop f) ∧ NoC c ((l.drop f).take (k - f))
theorem At.start (c : UInt8) (l : List UInt8) : At c l [] 0 0 := ⟨Nat.le_refl _, Nat.zero_le _, rfl, fun x hx => by simp at hx⟩
theorem take_succ' {α : Type} (l : List α) (k : Nat) (hk : k < l.length) : l.take (k + 1) = l.take k ++ [l[k]] := by
  rw [List.take_add_one, List.getElem?_eq_getElem hk]; rfl
theorem mid_snoc (l : List UInt8) (f k : Nat) (hf : f ≤ k) (hk : k < l.length) : (l.drop f).take (k + 1 - f) = (l.drop f).take (k - f) ++ [l[k]] := by
  have h1 : k + 1 - f = (k - f) + 1 := by omega
  have h2 : k - f < (l.drop f).length := by rw [List.length_drop]; omega
  rw [h1, take_succ' _ _ h2, List.getElem_drop]
  congr 3
  omega
theorem At.skip {c : UInt8} {l : List UInt8} {d : List (List UInt8)} {f k : Nat} (h : At c l d f k) (hk : k < l.length) (hc : l[k] ≠ c) : At c l d f (k + 1) := by
  obtain ⟨h1, h2, h3, h4⟩ := h
  refine ⟨by omega, hk, h3, fun x hx => ?_⟩
  rw [mid_snoc l f k h1 hk, List.mem_append] at hx
  rcases hx with hx | hx
  · exact h4 x hx
  · rw [List.mem_singleton.1 hx]; exact hc
theorem mid_hit (l : List UInt8) (f k : Nat) (hf : f ≤ k) (hk : k < l.length) : l.drop f = (l.drop f).take (k - f) ++ l[k] :: l.drop (k + 1) := by
  have e1 := List.take_append_drop (k - f) (l.drop f)
  have e2 : (l.drop f).drop (k - f) = l.drop k := by rw [List.drop_drop]; congr 1; omega
  rw [e2, List.drop_eq_getElem_cons hk] at e1
  exact e1.symm
theorem At.hit {c : UInt8} {l : List UInt8} {d : List (List UInt8)} {f k : Nat} (h : At c l d f k) (hk : k < l.length) (hc : l[k] = c) :
    At c l (d ++ [(l.drop f).take (k - f)]) (k + 1) (k + 1) ∧ splitC c l = d ++ (l.drop f).take (k - f) :: splitC c (l.drop (k + 1)) := by
  obtain ⟨h1, h2, h3, h4⟩ := h
  have e := mid_hit l f k h1 hk
  rw [hc] at e
  have h5 : splitC c l = d ++ (l.drop f).take (k - f) :: splitC c (l.drop (k + 1)) := by
    rw [h3]
    conv => lhs; rw [e]
    rw [split_hit _ _ h4]
  exact ⟨⟨Nat.le_refl _, hk, by rw [h5, List.append_assoc]; rfl, fun x hx => by simp at hx⟩, h5⟩
theorem At.done {c : UInt8} {l : List UInt8} {d : List (List UInt8)} {f k : Nat} (h : At c l d f k) (hk : ¬ k < l.length) : splitC c l = d ++ [l.drop f] := by
  obtain ⟨h1, h2, h3, h4⟩ := h
  have e : (l.drop f).take (k - f) = l.drop f := List.take_of_length_le (by rw [List.length_drop]; omega)
  rw [e] at h4
  rw [h3, split_none h4]
theorem At.len {c : UInt8} {l : List UInt8} {d : List (List UInt8)} {f k : Nat} (h : At c l d f k) : d.length ≤ l.length := by
  have h1 := split_len c l
  have h2 := List.length_pos_iff.2 (split_ne c (l.drop f))
  rw [h.2.2.1, List.length_append] at h1
  omega
/-! ### Words and lines -/
def wordB (p : List UInt8) : Bool := !p.isEmpty && p.all fun x => x != 10 && x != 32
theorem word_iff (p : List UInt8) : wordB p = true ↔ p ≠ [] ∧ NoC 10 p ∧ NoC 32 p := by
  unfold wordB NoC
  simp only [Bool.and_eq_true, Bool.not_eq_true', List.isEmpty_eq_false_iff, List.all_eq_true, bne_iff_ne, ne_eq]
  constructor
  · rintro ⟨h1, h2⟩; exact ⟨h1, fun x hx => (h2 x hx).1, fun x hx => (h2 x hx).2⟩
  · rintro ⟨h1, h2, h3⟩; exact ⟨h1, fun x hx => ⟨h2 x hx, h3 x hx⟩⟩
/-- The lines of a text. -/
def linesB (l : List UInt8) : Bool := (splitC 10 l).getLast? == some []
def linesL (l : List UInt8) : List (List UInt8) := if linesB l then (splitC 10 l).dropLast else []
theorem lines_of {l q : List UInt8} {d : List (List UInt8)} (h : splitC 10 l = d ++ [q]) : linesB l = q.isEmpty ∧ linesL l = if q.isEmpty then d else [] := by
  have hb : linesB l = q.isEmpty := by
    unfold linesB
    rw [h, List.getLast?_concat]
    cases q <;> rfl
  refine ⟨hb, ?_⟩
  unfold linesL
  rw [hb, h, List.dropLast_concat]
/-- The words of a line. -/
def wordsB (l : List UInt8) : Bool := l.isEmpty || (splitC 32 l).all wordB
def wordsL (l : List UInt8) : List (List UInt8) := if l.isEmpty then [] else if (splitC 32 l).all wordB then splitC 32 l else []
theorem words_nil : wordsB [] = true ∧ wordsL [] = [] := ⟨rfl, rfl⟩
theorem words_good {l : List UInt8} (h : l ≠ []) {d : List (List UInt8)} (e : splitC 32 l = d) (hd : ∀ p ∈ d, wordB p = true) : wordsB l = true ∧ wordsL l = d := by
  have ha : (splitC 32 l).all wordB = true := by rw [e]; exact List.all_eq_true.2 hd
  have hn : l.isEmpty = false := by cases l with | nil => exact absurd rfl h | cons a b => rfl
  unfold wordsB wordsL
  rw [ha, hn]
  exact ⟨rfl, e⟩
theorem words_bad {l p : List UInt8} (h : l ≠ []) (hp : p ∈ splitC 32 l) (hw : wordB p = false) : wordsB l = false ∧ wordsL l = [] := by
  have ha : (splitC 32 l).all wordB = false := by
    rw [Bool.eq_false_iff]
    intro e
    rw [List.all_eq_true.1 e p hp] at hw; cases hw
  have hn : l.isEmpty = false := by cases l with | nil => exact absurd rfl h | cons a b => rfl
  unfold wordsB wordsL
  rw [ha, hn]
  exact ⟨rfl, rfl⟩
theorem wordsL_word (l : List UInt8) : ∀ p ∈ wordsL l, wordB p = true := by
  intro p hp
  unfold wordsL at hp
  by_cases h1 : l.isEmpty = true
  · rw [if_pos h1] at hp; simp at hp
  · rw [if_neg h1] at hp
    by_cases h2 : (splitC 32 l).all wordB = true
    · rw [if_pos h2] at hp; exact List.all_eq_true.1 h2 p hp
    · rw [if_neg h2] at hp; simp at hp
theorem wordsL_len (l : List UInt8) : (wordsL l).length ≤ l.length + 1 := by
  have := split_len 32 l
  unfold wordsL
  split
  · simp
  · split
    · exact this
    · simp
theorem linesL_len (l : List UInt8) : (linesL l).length ≤ l.length + 1 := by
  have := split_len 10 l
  unfold linesL
  split
  · rw [List.length_dropLast]; omega
  · simp
def lineB (ps : List (List UInt8)) : Bool := ps.all wordB
def lineT (ps : List (List UInt8)) : List UInt8 := if lineB ps then joinC 32 ps else []
theorem line_iff (ps : List (List UInt8)) : lineB ps = true ↔ ∀ p ∈ ps, wordB p = true := List.all_eq_true
theorem line_good {ps : List (List UInt8)} (h : ∀ p ∈ ps, wordB p = true) : lineB ps = true ∧ lineT ps = joinC 32 ps := by
  have hb := (line_iff ps).2 h
  exact ⟨hb, by unfold lineT; rw [hb]; rfl⟩
theorem line_bad {ps : List (List UInt8)} {p : List UInt8} (hp : p ∈ ps) (hw : wordB p = false) : lineB ps = false ∧ lineT ps = [] := by
  have hb : lineB ps = false := by
    rw [Bool.eq_false_iff]
    intro e
    rw [(line_iff ps).1 e p hp] at hw; cases hw
  exact ⟨hb, by unfold lineT; rw [hb]; rfl⟩
def textB (ll : List (List (List UInt8))) : Bool := ll.all lineB
def textJ (ll : List (List (List UInt8))) : List UInt8 := (ll.map fun ps => joinC 32 ps ++ [10]).flatten
def textT (ll : List (List (List UInt8))) : List UInt8 := if textB ll then textJ ll else []
theorem text_good {ll : List (List (List UInt8))} (h : ∀ ps ∈ ll, lineB ps = true) : textB ll = true ∧ textT ll = textJ ll := by
  have hb : textB ll = true := List.all_eq_true.2 h
  exact ⟨hb, by unfold textT; rw [hb]; rfl⟩
theorem text_bad {ll : List (List (List UInt8))} {ps : List (List UInt8)} (hp : ps ∈ ll) (hw : lineB ps = false) : textB ll = false ∧ textT ll = [] := by
  have hb : textB ll = false := by
    rw [Bool.eq_false_iff]
    intro e
    rw [List.all_eq_true.1 e ps hp] at hw; cases hw
  exact ⟨hb, by unfold textT; rw [hb]; rfl⟩
theorem textJ_snoc (ll : List (List (List UInt8))) (ps : List (List UInt8)) : textJ (ll ++ [ps]) = textJ ll ++ (joinC 32 ps ++ [10]) := by
  unfold textJ; simp
/-- Bytes that are seen. -/
def vis (x : UInt8) : Bool := decide (33 ≤ x.toNat) && decide (x.toNat ≤ 126)
def seenB (l : List UInt8) : Bool := l.all vis
theorem seen_yes {x : UInt8} (h : vis x = true) : 33 ≤ x.toNat ∧ x.toNat ≤ 126 := by unfold vis at h; simpa using h
theorem seen_no {x : UInt8} (h : vis x = false) : x.toNat < 33 ∨ (¬ x.toNat < 33 ∧ 126 < x.toNat) := by
  unfold vis at h
  rw [Bool.and_eq_false_iff, decide_eq_false_iff_not, decide_eq_false_iff_not] at h
  omega
theorem seen_bad {l : List UInt8} {x : UInt8} (hx : x ∈ l) (h : vis x = false) : seenB l = false := by
  unfold seenB
  rw [Bool.eq_false_iff]
  intro e
  rw [List.all_eq_true.1 e x hx] at h; cases h
/-! ### Apart again -/
theorem join_noC {c d : UInt8} (hcd : d ≠ c) {ps : List (List UInt8)} (h : ∀ p ∈ ps, NoC c p) : NoC c (joinC d ps) := by
  induction ps with
  | nil => intro x hx; simp [joinC] at hx
  | cons p t ih =>
    by_cases ht : t = []
    · subst ht; exact h p (by simp)
    · rw [join_cons d p ht]
      intro x hx
      rw [List.mem_append, List.mem_cons] at hx
      rcases hx with hx | hx | hx
      · exact h p (by simp) x hx
      · rw [hx]; exact hcd
      · exact ih (fun q hq => h q (by simp [hq])) x hx
theorem words_join {ps : List (List UInt8)} (h : ∀ p ∈ ps, wordB p = true) : wordsB (joinC 32 ps) = true ∧ wordsL (joinC 32 ps) = ps := by
  by_cases h0 : ps = []
  · subst h0; exact words_nil
  · have hne : joinC 32 ps ≠ [] := by
      cases ps with
      | nil => exact absurd rfl h0
      | cons p t =>
        by_cases ht : t = []
        · subst ht; exact ((word_iff p).1 (h p (by simp))).1
        · rw [join_cons 32 p ht]; simp
    exact words_good hne (split_join 32 ps h0 fun p hp => ((word_iff p).1 (h p hp)).2.2) h
theorem line_words {l : List UInt8} (h : wordsB l = true) : joinC 32 (wordsL l) = l := by
  by_cases h0 : l = []
  · subst h0; rfl
  · have hn : l.isEmpty = false := by cases l with | nil => exact absurd rfl h0 | cons a b => rfl
    unfold wordsB at h
    rw [hn, Bool.false_or] at h
    unfold wordsL
    rw [hn, h]
    exact join_split 32 l
theorem words_none {l : List UInt8} (h : wordsB l = false) : wordsL l = [] := by
  unfold wordsB at h
  rw [Bool.or_eq_false_iff] at h
  unfold wordsL
  rw [h.1, h.2]; rfl
/-- Two lines of a text that has no end of a line in it. -/
theorem lines_two {t : List UInt8} (h : NoC 10 t) : linesB (t ++ 10 :: (t ++ 10 :: [])) = true ∧ linesL (t ++ 10 :: (t ++ 10 :: [])) = [t, t] := by
  have e : splitC 10 (t ++ 10 :: (t ++ 10 :: [])) = [t, t] ++ [[]] := by rw [split_hit t _ h, split_hit t _ h]; rfl
  exact lines_of e
end Go.Proofs.YtmohfmhkhldhnaaGreat.WordPure
