/- Texts that the laws of this seat stand on, part 1. -/
import Derived.Lib.Join
import Derived.Lib.SlicesS
import Derived.Lib.Bytealg
import Derived.Shelf.Strings.OnBuilder
import Derived.Test.YtdbebebhldldmaaGreatDoorProg
import Derived.Test.YtdbebebhldldmaaGreatDoorPk0
import Derived.Shelf.Strings.Builder1
import Derived.Shelf.LaysM
/- Plain facts on texts that are cut at one byte, and put together with it; words, lines. No program in sight. -/
namespace Go.Proofs.YtdbebebhldldmaaGreatDoor.WordPure

/-- Such a byte does not stand in it. -/
def NoC (c : UInt8) (l : List UInt8) : Prop := ∀ x ∈ l, x ≠ c
/-- What stands between such bytes. -/
def splitC (c : UInt8) : List UInt8 → List (List UInt8)
  | [] => [[]]
  | x :: r => if x = c then [] :: splitC c r else match splitC c r with | p :: ps => (x :: p) :: ps | [] => [[x]]
theorem split_ne (c : UInt8) (l : List UInt8) : splitC c l ≠ [] := by
  cases l with
  | nil => simp [splitC]
  | cons x r =>
    unfold splitC
    split
    · simp
    · split <;> simp
theorem split_none {c : UInt8} {l : List UInt8} (h : NoC c l) : splitC c l = [l] := by
  induction l with
  | nil => rfl
  | cons x r ih =>
    unfold splitC
    rw [if_neg (h x (by simp)), ih fun y hy => h y (by simp [hy])]
theorem split_hit {c : UInt8} (p r : List UInt8) (h : NoC c p) : splitC c (p ++ c :: r) = p :: splitC c r := by
  induction p with
  | nil =>
    rw [List.nil_append]
    conv => lhs; unfold splitC
    rw [if_pos rfl]
  | cons x t ih =>
    rw [List.cons_append]
    conv => lhs; unfold splitC
    rw [if_neg (h x (by simp)), ih fun y hy => h y (by simp [hy])]
theorem split_len (c : UInt8) (l : List UInt8) : (splitC c l).length ≤ l.length + 1 := by
  induction l with
  | nil => simp [splitC]
  | cons x r ih =>
    unfold splitC
    split
    · simp; omega
    · revert ih
      cases splitC c r with
      | nil => intro _; simp
      | cons p ps => intro h; simp at h ⊢; omega
/-- No piece is longer than the text. -/
theorem split_mem (c : UInt8) (l : List UInt8) : ∀ p ∈ splitC c l, p.length ≤ l.length ∧ NoC c p := by
  induction l with
  | nil => intro p hp; simp [splitC] at hp; subst hp; exact ⟨Nat.le_refl _, fun x hx => by simp at hx⟩
  | cons x r ih =>
    intro p hp
    unfold splitC at hp
    by_cases hx : x = c
    · rw [if_pos hx, List.mem_cons] at hp
      rcases hp with hp | hp
      · subst hp; exact ⟨Nat.zero_le _, fun x hx => by simp at hx⟩
      · have := ih p hp; exact ⟨by have := this.1; simp; omega, this.2⟩
    · rw [if_neg hx] at hp
      have hne := split_ne c r
      revert ih hne hp
      cases splitC c r with
      | nil => intro _ _ h; exact absurd rfl h
      | cons q ps =>
        intro ih hp _
        rw [List.mem_cons] at hp
        rcases hp with hp | hp
        · subst hp
          have := ih q (by simp)
          refine ⟨by have := this.1; simp; omega, fun y hy => ?_⟩
          rw [List.mem_cons] at hy
          rcases hy with hy | hy
          · rw [hy]; exact hx
          · exact this.2 y hy
        · have := ih p (by simp [hp]); exact ⟨by have := this.1; simp; omega, this.2⟩
/-- Put together with one such byte between two. -/
def joinC (c : UInt8) : List (List UInt8) → List UInt8
  | [] => []
  | [p] => p
  | p :: q :: ps => p ++ c :: joinC c (q :: ps)
theorem join_cons (c : UInt8) (p : List UInt8) {ps : List (List UInt8)} (h : ps ≠ []) : joinC c (p :: ps) = p ++ c :: joinC c ps := by
  cases ps with
  | nil => exact absurd rfl h
  | cons q t => rfl
theorem join_snoc (c : UInt8) (ps : List (List UInt8)) (p : List UInt8) (h : ps ≠ []) : joinC c (ps ++ [p]) = joinC c ps ++ c :: p := by
  induction ps with
  | nil => exact absurd rfl h
  | cons q t ih =>
    by_cases ht : t = []
    · subst ht; rfl
    · rw [List.cons_append, join_cons c q (by simp), ih ht, join_cons c q ht, List.append_assoc]; rfl
theorem join_lib (c : UInt8) (ps : List (List UInt8)) : Lib.join ps [c] = joinC c ps := by
  induction ps with
  | nil => rfl
  | cons p t ih =>
    by_cases ht : t = []
    · subst ht; exact Lib.join_one _ _
    · rw [Lib.join_cons, join_cons c p ht, ← ih]
      cases t with
      | nil => exact absurd rfl ht
      | cons q r => rw [Lib.join_cons]; simp [Lib.joinTail]
theorem join_split (c : UInt8) (l : List UInt8) : joinC c (splitC c l) = l := by
  induction l with
  | nil => rfl
  | cons x r ih =>
    unfold splitC
    by_cases h : x = c
    · rw [if_pos h, join_cons c _ (split_ne c r), ih, h]; rfl
    · rw [if_neg h]
      have hne := split_ne c r
      revert ih hne
      cases splitC c r with
      | nil => intro _ h; exact absurd rfl h
      | cons p ps =>
        intro ih _
        by_cases hp : ps = []
        · subst hp
          show x :: p = x :: r
          rw [show p = r from ih]
        · show joinC c ((x :: p) :: ps) = x :: r
          rw [join_cons c _ hp, List.cons_append, ← join_cons c p hp, ih]
theorem split_join (c : UInt8) (ps : List (List UInt8)) (h : ps ≠ []) (hn : ∀ p ∈ ps, NoC c p) : splitC c (joinC c ps) = ps := by
  induction ps with
  | nil => exact absurd rfl h
  | cons p t ih =>
    by_cases ht : t = []
    · subst ht; exact split_none (hn p (by simp))
    · rw [join_cons c p ht, split_hit p _ (hn p (by simp)), ih ht fun q hq => hn q (by simp [hq])]
theorem join_len (c : UInt8) (ps : List (List UInt8)) : (joinC c ps).length ≤ Lib.lens ps + ps.length := by
  induction ps with
  | nil => simp [joinC]
  | cons p t ih =>
    by_cases ht : t = []
    · subst ht; simp [joinC, Lib.lens]
    · rw [join_cons c p ht]
      simp [Lib.lens] at ih ⊢
      omega
/-! ### A text that is gone over -/
/-- What is cut off so far: the pieces d; from f on there was no such byte up to k. -/
def At (c : UInt8) (l : List UInt8) (d : List (List UInt8)) (f k : Nat) : Prop :=
  f ≤ k ∧ k ≤ l.length ∧ splitC c l = d ++ splitC c (l.drop f) ∧ NoC c ((l.drop f).take (k - f))
theorem At.start (c : UInt8) (l : List UInt8) : At c l [] 0 0 := ⟨Nat.le_refl _, Nat.zero_le _, rfl, fun x hx => by simp at hx⟩
theorem take_succ' {α : Type} (l : List α) (k : Nat) (hk : k < l.length) : l.take (k + 1) = l.take k ++ [l[k]] := by
  rw [List.take_add_one, List.getElem?_eq_getElem hk]; rfl
theorem mid_snoc (l : List UInt8) (f k : Nat) (hf : f ≤ k) (hk : k < l.length) : (l.drop f).take (k + 1 - f) = (l.drop f).take (k - f) ++ [l[k]] := by
  have h1 : k + 1 - f = (k - f) + 1 := by omega
  have h2 : k - f < (l.drop f).length := by rw [List.length_drop]; omega
  rw [h1, take_succ' _ _ h2, List.getElem_drop]
  congr 3
  omega
theorem At.skip {c : UInt8} {l : List UInt8} {d : List (List UInt8)} {f k : Nat} (h : At c l d f k) (hk : k < l.length) (hc : l[k] ≠ c) : At c l d f (k + 1) := by
  obtain ⟨h1, h2, h3, h4⟩ := h
  refine ⟨by omega, hk, h3, fun x hx => ?_⟩
  rw [mid_snoc l f k h1 hk, List.mem_append] at hx
  rcases hx with hx | hx
  · exact h4 x hx
  · rw [List.mem_singleton.1 hx]; exact hc
theorem mid_hit (l : List UInt8) (f k : Nat) (hf : f ≤ k) (hk : k < l.length) : l.drop f = (l.drop f).take (k - f) ++ l[k] :: l.drop (k + 1) := by
  have e1 := List.take_append_drop (k - f) (l.drop f)
  have e2 : (l.drop f).drop (k - f) = l.drop k := by rw [List.drop_drop]; congr 1; omega
  rw [e2, List.drop_eq_getElem_cons hk] at e1
  exact e1.symm
theorem At.hit {c : UInt8} {l : List UInt8} {d : List (List UInt8)} {f k : Nat} (h : At c l d f k) (hk : k < l.length) (hc : l[k] = c) :
    At c l (d ++ [(l.drop f).take (k - f)]) (k + 1) (k + 1) ∧ splitC c l = d ++ (l.drop f).take (k - f) :: splitC c (l.drop (k + 1)) := by
  obtain ⟨h1, h2, h3, h4⟩ := h
  have e := mid_hit l f k h1 hk
  rw [hc] at e
  have h5 : splitC c l = d ++ (l.drop f).take (k - f) :: splitC c (l.drop (k + 1)) := by
    rw [h3]
    conv => lhs; rw [e]
    rw [split_hit _ _ h4]
  exact ⟨⟨Nat.le_refl _, hk, by rw [h5, List.append_assoc]; rfl, fun x hx => by simp at hx⟩, h5⟩
theorem At.done {c : UInt8} {l : List UInt8} {d : List (List UInt8)} {f k : Nat} (h : At c l d f k) (hk : ¬ k < l.length) : splitC c l = d ++ [l.drop f] := by
  obtain ⟨h1, h2, h3, h4⟩ := h
  have e : (l.drop f).take (k - f) = l.drop f := List.take_of_length_le (by rw [List.length_drop]; omega)
  rw [e] at h4
  rw [h3, split_none h4]
theorem At.len {c : UInt8} {l : List UInt8} {d : List (List UInt8)} {f k : Nat} (h : At c l d f k) : d.length ≤ l.length := by
  have h1 := split_len c l
  have h2 := List.length_pos_iff.2 (split_ne c (l.drop f))
  rw [h.2.2.1, List.length_append] at h1
  omega
/-! ### Words and lines -/
def wordB (p : List UInt8) : Bool := !p.isEmpty && p.all fun x => x != 10 && x != 32
theorem word_iff (p : List UInt8) : wordB p = true ↔ p ≠ [] ∧ NoC 10 p ∧ NoC 32 p := by
  unfold wordB NoC
  simp only [Bool.and_eq_true, Bool.not_eq_true', List.isEmpty_eq_false_iff, List.all_eq_true, bne_iff_ne, ne_eq]
  constructor
  · rintro ⟨h1, h2⟩; exact ⟨h1, fun x hx => (h2 x hx).1, fun x hx => (h2 x hx).2⟩
  · rintro ⟨h1, h2, h3⟩; exact ⟨h1, fun x hx => ⟨h2 x hx, h3 x hx⟩⟩
/-- The lines of a text. -/
def linesB (l : List UInt8) : Bool := (splitC 10 l).getLast? == some []
def linesL (l : List UInt8) : List (List UInt8) := if linesB l then (splitC 10 l).dropLast else []
theorem lines_of {l q : List UInt8} {d : List (List UInt8)} (h : splitC 10 l = d ++ [q]) : linesB l = q.isEmpty ∧ linesL l = if q.isEmpty then d else [] := by
  have hb : linesB l = q.isEmpty := by
    unfold linesB
    rw [h, List.getLast?_concat]
    cases q <;> rfl
  refine ⟨hb, ?_⟩
  unfold linesL
  rw [hb, h, List.dropLast_concat]
/-- The words of a line. -/
def wordsB (l : List UInt8) : Bool := l.isEmpty || (splitC 32 l).all wordB
def wordsL (l : List UInt8) : List (List UInt8) := if l.isEmpty then [] else if (splitC 32 l).all wordB then splitC 32 l else []
theorem words_nil : wordsB [] = true ∧ wordsL [] = [] := ⟨rfl, rfl⟩
theorem words_good {l : List UInt8} (h : l ≠ []) {d : List (List UInt8)} (e : splitC 32 l = d) (hd : ∀ p ∈ d, wordB p = true) : wordsB l = true ∧ wordsL l = d := by
  have ha : (splitC 32 l).all wordB = true := by rw [e]; exact List.all_eq_true.2 hd
  have hn : l.isEmpty = false := by cases l with | nil => exact absurd rfl h | cons a b => rfl
  unfold wordsB wordsL
  rw [ha, hn]
  exact ⟨rfl, e⟩
theorem words_bad {l p : List UInt8} (h : l ≠ []) (hp : p ∈ splitC 32 l) (hw : wordB p = false) : wordsB l = false ∧ wordsL l = [] := by
  have ha : (splitC 32 l).all wordB = false := by
    rw [Bool.eq_false_iff]
    intro e
    rw [List.all_eq_true.1 e p hp] at hw; cases hw
  have hn : l.isEmpty = false := by cases l with | nil => exact absurd rfl h | cons a b => rfl
  unfold wordsB wordsL
  rw [ha, hn]
  exact ⟨rfl, rfl⟩
theorem wordsL_word (l : List UInt8) : ∀ p ∈ wordsL l, wordB p = true := by
  intro p hp
  unfold wordsL at hp
  by_cases h1 : l.isEmpty = true
  · rw [if_pos h1] at hp; simp at hp
  · rw [if_neg h1] at hp
    by_cases h2 : (splitC 32 l).all wordB = true
    · rw [if_pos h2] at hp; exact List.all_eq_true.1 h2 p hp
    · rw [if_neg h2] at hp; simp at hp
theorem wordsL_len (l : List UInt8) : (wordsL l).length ≤ l.length + 1 := by
  have := split_len 32 l
  unfold wordsL
  split
  · simp
  · split
    · exact this
    · simp
theorem linesL_len (l : List UInt8) : (linesL l).length ≤ l.length + 1 := by
  have := split_len 10 l
  unfold linesL
  split
  · rw [List.length_dropLast]; omega
  · simp
def lineB (ps : List (List UInt8)) : Bool := ps.all wordB
def lineT (ps : List (List UInt8)) : List UInt8 := if lineB ps then joinC 32 ps else []
theorem line_iff (ps : List (List UInt8)) : lineB ps = true ↔ ∀ p ∈ ps, wordB p = true := List.all_eq_true
theorem line_good {ps : List (List UInt8)} (h : ∀ p ∈ ps, wordB p = true) : lineB ps = true ∧ lineT ps = joinC 32 ps := by
  have hb := (line_iff ps).2 h
  exact ⟨hb, by unfold lineT; rw [hb]; rfl⟩
theorem line_bad {ps : List (List UInt8)} {p : List UInt8} (hp : p ∈ ps) (hw : wordB p = false) : lineB ps = false ∧ lineT ps = [] := by
  have hb : lineB ps = false := by
    rw [Bool.eq_false_iff]
    intro e
    rw [(line_iff ps).1 e p hp] at hw; cases hw
  exact ⟨hb, by unfold lineT; rw [hb]; rfl⟩
def textB (ll : List (List (List UInt8))) : Bool := ll.all lineB
def textJ (ll : List (List (List UInt8))) : List UInt8 := (ll.map fun ps => joinC 32 ps ++ [10]).flatten
def textT (ll : List (List (List UInt8))) : List UInt8 := if textB ll then textJ ll else []
theorem text_good {ll : List (List (List UInt8))} (h : ∀ ps ∈ ll, lineB ps = true) : textB ll = true ∧ textT ll = textJ ll := by
  have hb : textB ll = true := List.all_eq_true.2 h
  exact ⟨hb, by unfold textT; rw [hb]; rfl⟩
theorem text_bad {ll : List (List (List UInt8))} {ps : List (List UInt8)} (hp : ps ∈ ll) (hw : lineB ps = false) : textB ll = false ∧ textT ll = [] := by
  have hb : textB ll = false := by
    rw [Bool.eq_false_iff]
    intro e
    rw [List.all_eq_true.1 e ps hp] at hw; cases hw
  exact ⟨hb, by unfold textT; rw [hb]; rfl⟩
theorem textJ_snoc (ll : List (List (List UInt8))) (ps : List (List UInt8)) : textJ (ll ++ [ps]) = textJ ll ++ (joinC 32 ps ++ [10]) := by
  unfold textJ; simp
/-- Bytes that are seen. -/
def vis (x : UInt8) : Bool := decide (33 ≤ x.toNat) && decide (x.toNat ≤ 126)
def seenB (l : List UInt8) : Bool := l.all vis
theorem seen_yes {x : UInt8} (h : vis x = true) : 33 ≤ x.toNat ∧ x.toNat ≤ 126 := by unfold vis at h; simpa using h
theorem seen_no {x : UInt8} (h : vis x = false) : x.toNat < 33 ∨ (¬ x.toNat < 33 ∧ 126 < x.toNat) := by
  unfold vis at h
  rw [Bool.and_eq_false_iff, decide_eq_false_iff_not, decide_eq_false_iff_not] at h
  omega
theorem seen_bad {l : List UInt8} {x : UInt8} (hx : x ∈ l) (h : vis x = false) : seenB l = false := by
  unfold seenB
  rw [Bool.eq_false_iff]
  intro e
  rw [List.all_eq_true.1 e x hx] at h; cases h
/-! ### Apart again -/
theorem join_noC {c d : UInt8} (hcd : d ≠ c) {ps : List (List UInt8)} (h : ∀ p ∈ ps, NoC c p) : NoC c (joinC d ps) := by
  induction ps with
  | nil => intro x hx; simp [joinC] at hx
  | cons p t ih =>
    by_cases ht : t = []
    · subst ht; exact h p (by simp)
    · rw [join_cons d p ht]
      intro x hx
      rw [List.mem_append, List.mem_cons] at hx
      rcases hx with hx | hx | hx
      · exact h p (by simp) x hx
      · rw [hx]; exact hcd
      · exact ih (fun q hq => h q (by simp [hq])) x hx
theorem words_join {ps : List (List UInt8)} (h : ∀ p ∈ ps, wordB p = true) : wordsB (joinC 32 ps) = true ∧ wordsL (joinC 32 ps) = ps := by
  by_cases h0 : ps = []
  · subst h0; exact words_nil
  · have hne : joinC 32 ps ≠ [] := by
      cases ps with
      | nil => exact absurd rfl h0
      | cons p t =>
        by_cases ht : t = []
        · subst ht; exact ((word_iff p).1 (h p (by simp))).1
        · rw [join_cons 32 p ht]; simp
    exact words_good hne (split_join 32 ps h0 fun p hp => ((word_iff p).1 (h p hp)).2.2) h
theorem line_words {l : List UInt8} (h : wordsB l = true) : joinC 32 (wordsL l) = l := by
  by_cases h0 : l = []
  · subst h0; rfl
  · have hn : l.isEmpty = false := by cases l with | nil => exact absurd rfl h0 | cons a b => rfl
    unfold wordsB at h
    rw [hn, Bool.false_or] at h
    unfold wordsL
    rw [hn, h]
    exact join_split 32 l
theorem words_none {l : List UInt8} (h : wordsB l = false) : wordsL l = [] := by
  unfold wordsB at h
  rw [Bool.or_eq_false_iff] at h
  unfold wordsL
  rw [h.1, h.2]; rfl
/-- Two lines of a text that has no end of a line in it. -/
theorem lines_two {t : List UInt8} (h : NoC 10 t) : linesB (t ++ 10 :: (t ++ 10 :: [])) = true ∧ linesL (t ++ 10 :: (t ++ 10 :: [])) = [t, t] := by
  have e : splitC 10 (t ++ 10 :: (t ++ 10 :: [])) = [t, t] ++ [[]] := by rw [split_hit t _ h, split_hit t _ h]; rfl
  exact lines_of e
end Go.Proofs.YtdbebebhldldmaaGreatDoor.WordPure
/- The library's contracts of strings.Join, laid at this program. -/
namespace Go.Proofs
open Go.Shelf
def Tryz.lays156_ren : Go.Shelf.Ren := ⟨fun | 156 => 59 | 165 => 86 | 166 => 58 | 169 => 60 | 240 => 85 | 241 => 111 | 276 => 110 | 277 => 131 | n => n, fun | 31 => 113 | 9 => 9 | 3 => 3 | 4 => 4 | 0 => 0 | 20 => 20 | 72 => 112 | 76 => 116 | 70 => 109 | 37 => 110 | 75 => 115 | 127 => 150 | 164 => 178 | 5 => 5 | 80 => 66 | n => n, fun | n => n⟩
theorem Tryz.lays156 : Go.Proofs.Lays.n156 Tryz.prog Tryz.lays156_ren := {
  mixed := by kernel_rfl
  f156 := Tryz.func59.trans (congrArg some (by kernel_rfl))
  f165 := Tryz.func86.trans (congrArg some (by kernel_rfl))
  f166 := Tryz.func58.trans (congrArg some (by kernel_rfl))
  f169 := Tryz.func60.trans (congrArg some (by kernel_rfl))
  f240 := Tryz.func85.trans (congrArg some (by kernel_rfl))
  f241 := Tryz.func111.trans (congrArg some (by kernel_rfl))
  f276 := Tryz.func110.trans (congrArg some (by kernel_rfl))
  f277 := Tryz.func131.trans (congrArg some (by kernel_rfl))
  t0 := Tryz.underlying0
  a0 := Tryz.isAgg0
  z0 := Tryz.sizeOf0
  v0 := Tryz.zeroValue0
  t3 := Tryz.underlying3
  a3 := Tryz.isAgg3
  z3 := Tryz.sizeOf3
  v3 := Tryz.zeroValue3
  t4 := Tryz.underlying4
  a4 := Tryz.isAgg4
  z4 := Tryz.sizeOf4
  v4 := Tryz.zeroValue4
  t9 := Tryz.underlying9
  a9 := Tryz.isAgg9
  z9 := Tryz.sizeOf9
  v9 := Tryz.zeroValue9
  t20 := Tryz.underlying20
  a20 := Tryz.isAgg20
  z20 := Tryz.sizeOf20
  v20 := Tryz.zeroValue20
  t31 := Tryz.underlying113
  a31 := Tryz.isAgg113
  z31 := Tryz.sizeOf113
  v31 := Tryz.zeroValue113
  t37 := Tryz.underlying110
  a37 := Tryz.isAgg110
  z37 := Tryz.sizeOf110
  v37 := Tryz.zeroValue110
  t70 := Tryz.underlying109
  a70 := Tryz.isAgg109
  z70 := Tryz.sizeOf109
  v70 := Tryz.zeroValue109
  t72 := Tryz.underlying112
  a72 := Tryz.isAgg112
  z72 := Tryz.sizeOf112
  v72 := Tryz.zeroValue112
  t75 := Tryz.underlying115
  a75 := Tryz.isAgg115
  z75 := Tryz.sizeOf115
  v75 := Tryz.zeroValue115
  t76 := Tryz.underlying116
  a76 := Tryz.isAgg116
  z76 := Tryz.sizeOf116
  v76 := Tryz.zeroValue116
  t127 := Tryz.underlying150
  a127 := Tryz.isAgg150
  z127 := Tryz.sizeOf150
  v127 := Tryz.zeroValue150
  t164 := Tryz.underlying178
  a164 := Tryz.isAgg178
  z164 := Tryz.sizeOf178
  v164 := Tryz.zeroValue178 }
theorem Tryz.Builder_Extra_156 : Builder.Extra Tryz.prog Tryz.lays156_ren := {
  sizeBuilder := by kernel_rfl
  liesBuilder := by kernel_rfl
  t5 := Tryz.underlying5
  a5 := Tryz.isAgg5
  z5 := Tryz.sizeOf5
  v5 := Tryz.zeroValue5
  infoByte := by kernel_rfl
  cellsByte := by kernel_rfl
  sizeByte := by kernel_rfl
  neB5 := by decide }
open Go.RowKit in
theorem Tryz.strings_Join_none (a : Option Addr) (c : Nat) (sep : ByteArray) (w : World) :
    Calls Tryz.prog 59 #[.slice a 0 c, .string sep] w fun e w' => e = .returned (.string ⟨#[]⟩) ∧ w' = w := Any.strings_Join_none Tryz.lays156 Tryz.Builder_Extra_156 a c sep w
open Go.RowKit in
theorem Tryz.strings_Join (bk o c : Nat) (xs : List ByteArray) (sep : ByteArray) (w : World) (hcells : ∀ (j : Nat) x, xs[j]? = some x → w.cell? ⟨bk, o + j, none⟩ = some (.string x)) (hbk : bk < w.heap.size) (hN : xs.length ≤ 140737488355328) (hcap : xs.length ≤ c) (hlen : (Lib.join (xs.map (·.data.toList)) sep.data.toList).length ≤ 140737488355328) :
    Calls Tryz.prog 59 #[.slice (some ⟨bk, o, none⟩) xs.length c, .string sep] w fun e w' => e = .returned (.string ⟨(Lib.join (xs.map (·.data.toList)) sep.data.toList).toArray⟩) ∧ Below w.heap.size w w' := Any.strings_Join Tryz.lays156 Tryz.Builder_Extra_156 bk o c xs sep w hcells hbk hN hcap hlen
end Go.Proofs
/- Contract: strings.Join at one blank. -/
namespace Go.Proofs.YtdbebebhldldmaaGreatDoor.Wd
open Go.RowKit Go.ChangeShapes WordPure Str
/-- How long what is put together may be. -/
def Short (n : Nat) (l : List (List UInt8)) : Prop := Lib.lens l + l.length ≤ n
theorem Short.one {n : Nat} {l : List (List UInt8)} (h : Short n l) {k : Nat} (hk : k < l.length) : l[k].length ≤ n := by
  have h1 := Lib.lens_take_succ l k l[k] (List.getElem?_eq_getElem hk)
  have h2 := Lib.lens_take_le l (k + 1)
  unfold Short at h
  omega
theorem Short.join {n : Nat} {l : List (List UInt8)} (h : Short n l) : (joinC 32 l).length ≤ n := Nat.le_trans (join_len 32 l) h
theorem Short.take {n : Nat} {l : List (List UInt8)} (h : Short n l) (k : Nat) : Short n (l.take k) := by
  have h2 := Lib.lens_take_le l k
  unfold Short at h ⊢
  rw [List.length_take]; omega
/-- strings.Join at one blank. -/
theorem join_any (a : Option Addr) (cap : Nat) (l : List (List UInt8)) (w : World) (hl : ReadsL encS w.heap.size w a l) (hc : l.length ≤ cap) (hs : Short 100000000 l) :
    Calls Tryz.prog 59 #[.slice a l.length cap, .string ⟨#[32]⟩] w fun e w' => e = .returned (.string ⟨(joinC 32 l).toArray⟩) ∧ Below w.heap.size w w' := by
  rcases hl with h | ⟨b, off, rfl, hb, hcell⟩
  · subst h
    exact (Tryz.strings_Join_none a cap ⟨#[32]⟩ w).mono fun e w' ⟨he, hw⟩ => ⟨he, hw ▸ Below.refl _ _⟩
  · have hm : (l.map fun p => (⟨p.toArray⟩ : ByteArray)).map (·.data.toList) = l := by
      rw [List.map_map]
      conv => rhs; rw [← List.map_id l]
      exact List.map_congr_left fun p _ => rfl
    have hj : Lib.join ((l.map fun p => (⟨p.toArray⟩ : ByteArray)).map (·.data.toList)) (⟨#[32]⟩ : ByteArray).data.toList = joinC 32 l := by
      rw [hm]; exact join_lib 32 l
    have h := Tryz.strings_Join b off cap (l.map fun p => (⟨p.toArray⟩ : ByteArray)) ⟨#[32]⟩ w (fun j x hx => by
      rw [List.getElem?_map] at hx
      obtain ⟨p, hp, rfl⟩ := Option.map_eq_some_iff.1 hx
      obtain ⟨hj, rfl⟩ := List.getElem?_eq_some_iff.1 hp
      exact hcell j hj) hb (by rw [List.length_map]; unfold Short at hs; omega) (by rw [List.length_map]; exact hc) (by rw [hj]; have := hs.join; omega)
    rw [hj, List.length_map] at h
    exact h
end Go.Proofs.YtdbebebhldldmaaGreatDoor.Wd
/- The library's contracts of strings.Builder (WriteString, WriteByte, String), laid at this program. -/
namespace Go.Proofs
open Go.Shelf
def Tryz.lays166_ren : Go.Shelf.Ren := ⟨fun | 166 => 58 | 240 => 85 | 276 => 110 | n => n, fun | 0 => 0 | 164 => 178 | 3 => 3 | 37 => 110 | 4 => 4 | 70 => 109 | 72 => 112 | 75 => 115 | 9 => 9 | 20 => 20 | 80 => 66 | 5 => 5 | n => n, fun | n => n⟩
theorem Tryz.lays166 : Go.Proofs.Lays.n166 Tryz.prog Tryz.lays166_ren := {
  mixed := by kernel_rfl
  f166 := Tryz.func58.trans (congrArg some (by kernel_rfl))
  f240 := Tryz.func85.trans (congrArg some (by kernel_rfl))
  f276 := Tryz.func110.trans (congrArg some (by kernel_rfl))
  t0 := Tryz.underlying0
  a0 := Tryz.isAgg0
  z0 := Tryz.sizeOf0
  v0 := Tryz.zeroValue0
  t3 := Tryz.underlying3
  a3 := Tryz.isAgg3
  z3 := Tryz.sizeOf3
  v3 := Tryz.zeroValue3
  t4 := Tryz.underlying4
  a4 := Tryz.isAgg4
  z4 := Tryz.sizeOf4
  v4 := Tryz.zeroValue4
  t9 := Tryz.underlying9
  a9 := Tryz.isAgg9
  z9 := Tryz.sizeOf9
  v9 := Tryz.zeroValue9
  t20 := Tryz.underlying20
  a20 := Tryz.isAgg20
  z20 := Tryz.sizeOf20
  v20 := Tryz.zeroValue20
  t37 := Tryz.underlying110
  a37 := Tryz.isAgg110
  z37 := Tryz.sizeOf110
  v37 := Tryz.zeroValue110
  t70 := Tryz.underlying109
  a70 := Tryz.isAgg109
  z70 := Tryz.sizeOf109
  v70 := Tryz.zeroValue109
  t72 := Tryz.underlying112
  a72 := Tryz.isAgg112
  z72 := Tryz.sizeOf112
  v72 := Tryz.zeroValue112
  t75 := Tryz.underlying115
  a75 := Tryz.isAgg115
  z75 := Tryz.sizeOf115
  v75 := Tryz.zeroValue115
  t164 := Tryz.underlying178
  a164 := Tryz.isAgg178
  z164 := Tryz.sizeOf178
  v164 := Tryz.zeroValue178 }
theorem Tryz.Builder_Extra_166 : Builder.Extra Tryz.prog Tryz.lays166_ren := {
  sizeBuilder := by kernel_rfl
  liesBuilder := by kernel_rfl
  t5 := Tryz.underlying5
  a5 := Tryz.isAgg5
  z5 := Tryz.sizeOf5
  v5 := Tryz.zeroValue5
  infoByte := by kernel_rfl
  cellsByte := by kernel_rfl
  sizeByte := by kernel_rfl
  neB5 := by decide }
open Go.RowKit in
theorem Tryz.Builder_WriteString (B b : Nat) (bs : List Value) (s : ByteArray) (w : World) (h : Lib.IsBuilder 112 5 B b bs w) (hlen : bs.length + s.size ≤ 140737488355328) (hBw : B ≤ w.heap.size) :
    Calls Tryz.prog 58 #[.pointer (some ⟨b, 0, none⟩), .string s] w fun e w' => e = .returned (.tuple #[.int .i64 s.size, .nilIface]) ∧ (Lib.BuilderAt 112 5 B b (.pointer (some ⟨b, 0, none⟩)) (bs ++ Lib.strCells s) w' ∧ Below B w w') := Any.Builder_WriteString Tryz.lays166 Tryz.Builder_Extra_166 B b bs s w h hlen hBw
def Tryz.lays169_ren : Go.Shelf.Ren := ⟨fun | 169 => 60 | n => n, fun | 70 => 109 | 9 => 9 | 0 => 0 | 72 => 112 | 37 => 110 | 127 => 150 | 3 => 3 | 5 => 5 | n => n, fun | n => n⟩
theorem Tryz.lays169 : Go.Proofs.Lays.n169 Tryz.prog Tryz.lays169_ren := {
  mixed := by kernel_rfl
  f169 := Tryz.func60.trans (congrArg some (by kernel_rfl))
  t0 := Tryz.underlying0
  a0 := Tryz.isAgg0
  z0 := Tryz.sizeOf0
  v0 := Tryz.zeroValue0
  t3 := Tryz.underlying3
  a3 := Tryz.isAgg3
  z3 := Tryz.sizeOf3
  v3 := Tryz.zeroValue3
  t9 := Tryz.underlying9
  a9 := Tryz.isAgg9
  z9 := Tryz.sizeOf9
  v9 := Tryz.zeroValue9
  t37 := Tryz.underlying110
  a37 := Tryz.isAgg110
  z37 := Tryz.sizeOf110
  v37 := Tryz.zeroValue110
  t70 := Tryz.underlying109
  a70 := Tryz.isAgg109
  z70 := Tryz.sizeOf109
  v70 := Tryz.zeroValue109
  t72 := Tryz.underlying112
  a72 := Tryz.isAgg112
  z72 := Tryz.sizeOf112
  v72 := Tryz.zeroValue112
  t127 := Tryz.underlying150
  a127 := Tryz.isAgg150
  z127 := Tryz.sizeOf150
  v127 := Tryz.zeroValue150 }
theorem Tryz.Builder_Extra_169 : Builder.Extra Tryz.prog Tryz.lays169_ren := {
  sizeBuilder := by kernel_rfl
  liesBuilder := by kernel_rfl
  t5 := Tryz.underlying5
  a5 := Tryz.isAgg5
  z5 := Tryz.sizeOf5
  v5 := Tryz.zeroValue5
  infoByte := by kernel_rfl
  cellsByte := by kernel_rfl
  sizeByte := by kernel_rfl
  neB5 := by decide }
open Go.RowKit in
theorem Tryz.Builder_String_any (B b : Nat) (l : List UInt8) (w : World) (h : Lib.IsBuilder 112 5 B b (Lib.byteCells l) w) (hBw : B ≤ w.heap.size) :
    Calls Tryz.prog 60 #[.pointer (some ⟨b, 0, none⟩)] w fun e w' => e = .returned (.string ⟨l.toArray⟩) ∧ Below B w w' := Any.Builder_String_any Tryz.lays169 Tryz.Builder_Extra_169 B b l w h hBw
end Go.Proofs
