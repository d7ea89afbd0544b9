/- Texts that the laws of this seat stand on, part 16. -/
import Derived.Test.YtmohfmhkhldhnaaGreatPk0
import Derived.Test.YtmohfmhkhldhnaaGreatPk12
import Derived.Test.YtmohfmhkhldhnaaGreatPk9
import Derived.Test.YtmohfmhkhldhnaaGreatPk5
/- What hangs together, plainly: names of classes by edges, one edge less, bridges. No function of the program is named. -/
namespace Go.Proofs.YtmohfmhkhldhnaaGreat.CmPure
open EdPure NtPure DsuPure
/-- Names behind one more edge, if it is heavy. -/
def stepH (n : Nat) (least : Int) (p : Nat → Nat) (e : Ed) : Nat → Nat := if least ≤ e.2.2 then joinZ n p e.1 e.2.1 else p
def namH (n : Nat) (M : List Ed) (least : Int) : Nat → Nat := M.foldl (stepH n least) fun x => x
theorem nam_snoc (n : Nat) (M : List Ed) (e : Ed) (least : Int) : namH n (M ++ [e]) least = stepH n least (namH n M least) e := by unfold namH; rw [List.foldl_append]; rfl
theorem nam_take {n : Nat} {M : List Ed} {least : Int} {k : Nat} (hk : k < M.length) : namH n (M.take (k + 1)) least = stepH n least (namH n (M.take k) least) M[k] := by
  rw [List.take_succ_eq_append_getElem hk, nam_snoc]
/-- The ends of heavy edges. -/
def prs (M : List Ed) (least : Int) : List (Int × Int) := (M.filter fun e => decide (least ≤ e.2.2)).map fun e => (e.1, e.2.1)
theorem nam_from (n : Nat) (least : Int) : ∀ (M : List Ed) (E : List (Int × Int)) (p : Nat → Nat), Stands n E p → Stands n (E ++ prs M least) (M.foldl (stepH n least) p) := by
  intro M
  induction M with
  | nil => intro E p h; simpa [prs] using h
  | cons e M ih =>
    intro E p h
    rw [List.foldl_cons]
    by_cases hl : least ≤ e.2.2
    · have h2 := ih (E ++ [(e.1, e.2.1)]) (joinZ n p e.1 e.2.1) (stands_join h e.1 e.2.1)
      have : E ++ prs (e :: M) least = E ++ [(e.1, e.2.1)] ++ prs M least := by unfold prs; rw [List.filter_cons_of_pos (by simpa using hl)]; simp
      rw [this, show stepH n least p e = joinZ n p e.1 e.2.1 from if_pos hl]
      exact h2
    · have h2 := ih E p h
      have : prs (e :: M) least = prs M least := by unfold prs; rw [List.filter_cons_of_neg (by simpa using hl)]
      rw [this, show stepH n least p e = p from if_neg hl]
      exact h2
theorem nam_stands (n : Nat) (M : List Ed) (least : Int) : Stands n (prs M least) (namH n M least) := by
  have := nam_from n least M [] (fun x => x) (stands_start n)
  rw [List.nil_append] at this
  exact this
theorem nam_names (n : Nat) (M : List Ed) (least : Int) : Names n (namH n M least) := (nam_stands n M least).1
/-! ### One edge less -/
/-- Of the first k edges all but the one numbered i. -/
def woK (M : List Ed) (i : Nat) : Nat → List Ed
  | 0 => []
  | k + 1 => woK M i k ++ (if k = i then [] else match M[k]? with | some e => [e] | none => [])
theorem wo_mem (M : List Ed) (i : Nat) (e : Ed) (k : Nat) : e ∈ woK M i k ↔ ∃ j, j < k ∧ j ≠ i ∧ M[j]? = some e := by
  induction k with
  | zero => simp [woK]
  | succ k ih =>
    unfold woK
    rw [List.mem_append, ih]
    constructor
    · rintro (⟨j, h1, h2, h3⟩ | h)
      · exact ⟨j, by omega, h2, h3⟩
      · by_cases hk : k = i
        · rw [if_pos hk] at h; simp at h
        · rw [if_neg hk] at h
          cases hm : M[k]? with
          | none => rw [hm] at h; simp at h
          | some x => rw [hm] at h; simp at h; exact ⟨k, by omega, hk, by rw [hm, h]⟩
    · rintro ⟨j, h1, h2, h3⟩
      by_cases hj : j < k
      · exact Or.inl ⟨j, hj, h2, h3⟩
      · obtain rfl : j = k := by omega
        refine Or.inr ?_
        rw [if_neg h2, h3]
        simp
theorem wo_sub (M : List Ed) (i k : Nat) : (woK M i k).Sublist (M.take k) := by
  induction k with
  | zero => simp [woK]
  | succ k ih =>
    unfold woK
    rw [List.take_add_one]
    refine ih.append ?_
    split
    · exact List.nil_sublist _
    · cases M[k]? with
      | none => exact List.Sublist.refl _
      | some e => exact List.Sublist.refl _
theorem wo_all (M : List Ed) (i : Nat) : (woK M i M.length).Sublist M := by
  have := wo_sub M i M.length
  rwa [List.take_length] at this
theorem sub_allW {L M : List Ed} (h : L.Sublist M) (hn : NonNeg M) : allW L ≤ allW M := by
  induction h with
  | slnil => exact Int.le_refl _
  | cons e h ih =>
    have := ih fun x hx => hn x (by simp [hx])
    have := hn e (by simp)
    rw [allW_cons]; omega
  | cons_cons e h ih =>
    have := ih fun x hx => hn x (by simp [hx])
    rw [allW_cons, allW_cons]; omega
theorem wo_good {n : Int} {M : List Ed} (h : GoodN n M) (i : Nat) : GoodN n (woK M i M.length) := by
  have hs := wo_all M i
  refine ⟨⟨h.1.1.sublist hs, fun x hx => h.1.2 x (hs.subset hx)⟩, fun x hx => h.2.1 x (hs.subset hx), ?_⟩
  have := sub_allW hs h.non
  have := h.2.2
  omega
theorem prs_mem {M : List Ed} {least : Int} {p : Int × Int} : p ∈ prs M least ↔ ∃ e ∈ M, least ≤ e.2.2 ∧ p = (e.1, e.2.1) := by
  unfold prs
  rw [List.mem_map]
  constructor
  · rintro ⟨e, he, rfl⟩
    obtain ⟨h1, h2⟩ := List.mem_filter.1 he
    exact ⟨e, h1, by simpa using h2, rfl⟩
  · rintro ⟨e, h1, h2, rfl⟩
    exact ⟨e, List.mem_filter.2 ⟨h1, by simpa using h2⟩, rfl⟩
/-- The edge that was left out is joined last. -/
theorem nam_without {n : Nat} {M : List Ed} (h : GoodN n M) {i : Nat} (hi : i < M.length) : namH n M 0 = joinZ n (namH n (woK M i M.length) 0) M[i].1 M[i].2.1 := by
  have hpos : ∀ e ∈ M, (0 : Int) ≤ e.2.2 := fun e he => by have := (h.2.1 e he).2.2; omega
  refine stands_one (nam_stands n M 0) (stands_join (nam_stands n (woK M i M.length) 0) M[i].1 M[i].2.1) (fun e he => Or.inl ?_) (fun e he => Or.inl ?_)
  · rcases List.mem_append.1 he with he | he
    · obtain ⟨x, hx, h1, h2⟩ := prs_mem.1 he
      exact prs_mem.2 ⟨x, (wo_all M i).subset hx, h1, h2⟩
    · rw [List.mem_singleton] at he
      exact prs_mem.2 ⟨M[i], List.getElem_mem hi, hpos _ (List.getElem_mem hi), he⟩
  · obtain ⟨x, hx, h1, h2⟩ := prs_mem.1 he
    obtain ⟨j, hj, rfl⟩ := List.mem_iff_getElem.1 hx
    by_cases e : j = i
    · subst e
      exact List.mem_append_right _ (by rw [h2]; simp)
    · exact List.mem_append_left _ (prs_mem.2 ⟨M[j], (wo_mem M i _ _).2 ⟨j, hj, e, List.getElem?_eq_getElem hj⟩, h1, h2⟩)
/-- One edge more is one class less, or none. -/
theorem roots_join {n : Nat} {p : Nat → Nat} (h : Names n p) (u v : Int) : rootsN n (joinZ n p u v) = rootsN n p ∨ rootsN n (joinZ n p u v) + 1 = rootsN n p := by
  unfold joinZ
  split
  · next hf =>
    rw [Bool.and_eq_true] at hf
    obtain ⟨a, rfl, ha⟩ := fit_yes hf.1
    obtain ⟨b, rfl, hb⟩ := fit_yes hf.2
    simp only [Int.toNat_natCast]
    by_cases e : p a = p b
    · exact Or.inl (by rw [joinN_same e])
    · refine Or.inr ?_
      rw [joinN_move]
      have h1 := h.1 a
      have h2 := h.1 b
      rcases Nat.lt_or_gt_of_ne e with hl | hl
      · rw [Nat.min_eq_left (Nat.le_of_lt hl), Nat.max_eq_right (Nat.le_of_lt hl)]
        exact move_roots (h.2.1 a) (h.2.1 b) hl (by omega)
      · rw [Nat.min_eq_right (Nat.le_of_lt hl), Nat.max_eq_left (Nat.le_of_lt hl)]
        exact move_roots (h.2.1 b) (h.2.1 a) hl (by omega)
  · exact Or.inl rfl
def brB (n : Nat) (M : List Ed) (i : Nat) : Bool := decide (rootsN n (namH n M 0) < rootsN n (namH n (woK M i M.length) 0))
theorem br_count {n : Nat} {M : List Ed} (h : GoodN n M) {i : Nat} (hi : i < M.length) : rootsN n (namH n (woK M i M.length) 0) = rootsN n (namH n M 0) + if brB n M i = true then 1 else 0 := by
  have h1 := roots_join (nam_names n (woK M i M.length) 0) M[i].1 M[i].2.1
  rw [← nam_without h hi] at h1
  unfold brB
  simp only [decide_eq_true_eq]
  split <;> omega
/-- The bridges among the first k edges. -/
def brL (n : Nat) (M : List Ed) : Nat → List Nat
  | 0 => []
  | k + 1 => brL n M k ++ (if brB n M k = true then [k] else [])
theorem brL_mem (n : Nat) (M : List Ed) (i k : Nat) : i ∈ brL n M k ↔ i < k ∧ brB n M i = true := by
  induction k with
  | zero => simp [brL]
  | succ k ih =>
    unfold brL
    rw [List.mem_append, ih]
    constructor
    · rintro (⟨h1, h2⟩ | h1)
      · exact ⟨by omega, h2⟩
      · split at h1
        · next h3 => rw [List.mem_singleton] at h1; subst h1; exact ⟨by omega, h3⟩
        · simp at h1
    · rintro ⟨h1, h2⟩
      by_cases h3 : i < k
      · exact Or.inl ⟨h3, h2⟩
      · obtain rfl : i = k := by omega
        rw [if_pos h2]; simp
theorem brL_len (n : Nat) (M : List Ed) (k : Nat) : (brL n M k).length ≤ k := by
  induction k with
  | zero => simp [brL]
  | succ k ih =>
    unfold brL
    rw [List.length_append]
    split <;> simp <;> omega
/-- What hangs together with v; of each vertex the least one. -/
def reachL (n : Nat) (p : Nat → Nat) (v : Int) : List Int := if fitB n v = true then DsuPure.rowL n p (p v.toNat) else []
def nameL (n : Nat) (p : Nat → Nat) : List Int := (List.range n).map fun v => (p v : Int)
end Go.Proofs.YtmohfmhkhldhnaaGreat.CmPure
/- The document's graph, as it is boxed; numbers that a call answers. No function of the program is named. -/
namespace Go.Proofs.YtmohfmhkhldhnaaGreat.Cm
open Go.RowKit Go.ChangeShapes EdPure
/-- The graph as it is boxed, and its edges. -/
def BoxSt (w : World) (N : Nat) (n : Int) (a : Option Addr) (c : Nat) (M : List Ed) (W : World) : Prop :=
  Below w.heap.size w W ∧ TwoAt N W (.int .i64 n) (.slice a M.length c) ∧ ReadsE W.heap.size W a M
theorem BoxSt.keep {w W W' : World} {N : Nat} {n : Int} {a : Option Addr} {c : Nat} {M : List Ed} (h : BoxSt w N n a c M W) (hb : Below W.heap.size W W') : BoxSt w N n a c M W' :=
  ⟨h.1.trans (hb.mono h.1.size), h.2.1.on hb h.2.1.lt, h.2.2.over hb (Nat.le_refl _)⟩
theorem BoxSt.start {w : World} {n : Int} {a : Option Addr} {c : Nat} {M : List Ed} (hR : ReadsE w.heap.size w a M) :
    BoxSt w w.heap.size n a c M (w.alloc (.cells #[.int .i64 n, .slice a M.length c] 37)) :=
  have hb := (Below.refl w.heap.size w).alloc (Nat.le_refl _) (.cells #[.int .i64 n, .slice a M.length c] 37)
  ⟨hb, TwoAt.new _ _ _ _, hR.over hb (Nat.le_refl _)⟩
theorem two_all {N : Nat} {w : World} {u v : Value} (h : TwoAt N w u v) : w.cell? ⟨N, 0, none⟩ = some u ∧ w.cell? ⟨N, 1, none⟩ = some v := ⟨h.1, h.2.1⟩
def IntsOf (l : List Int) (w : World) (e : Ending) (w' : World) : Prop := Below w.heap.size w w' ∧ ∃ q c, e = .returned (.slice q l.length c) ∧ ReadsL encZ w'.heap.size w' q l
end Go.Proofs.YtmohfmhkhldhnaaGreat.Cm
