/- Plain facts on texts of numbers with one blank between two: parts, put together and cut apart. No program in sight. -/
import Derived.Test.YtdianpdjcgcifaaDoorDecPure
import Derived.Lib.Bytealg
namespace Go.Proofs.YtdianpdjcgcifaaDoor.DecPure
open Go.Lib First

/-- No blank in it. -/
def NoB (l : List UInt8) : Prop := ∀ c ∈ l, c ≠ 32
/-- What stands between blanks. -/
def splitB : List UInt8 → List (List UInt8)
  | [] => [[]]
  | c :: r => if c = 32 then [] :: splitB r else match splitB r with | p :: ps => (c :: p) :: ps | [] => [[c]]
theorem split_ne (l : List UInt8) : splitB l ≠ [] := by
  cases l with
  | nil => simp [splitB]
  | cons c r =>
    unfold splitB
    split
    · simp
    · split <;> simp
theorem split_none {l : List UInt8} (h : NoB l) : splitB l = [l] := by
  induction l with
  | nil => rfl
  | cons c r ih =>
    unfold splitB
    rw [if_neg (h c (by simp)), ih fun x hx => h x (by simp [hx])]
theorem split_hit (p r : List UInt8) (h : NoB p) : splitB (p ++ 32 :: r) = p :: splitB r := by
  induction p with
  | nil => rw [List.nil_append]; conv => lhs; unfold splitB
           rw [if_pos rfl]
  | cons c t ih =>
    rw [List.cons_append]
    conv => lhs; unfold splitB
    rw [if_neg (h c (by simp)), ih fun x hx => h x (by simp [hx])]
def parts (l : List UInt8) : List (List UInt8) := if l = [] then [] else splitB l
theorem parts_nil : parts [] = [] := rfl
theorem parts_some {l : List UInt8} (h : l ≠ []) : parts l = splitB l := if_neg h
/-- Put together with one blank between two. -/
def joinB : List (List UInt8) → List UInt8
  | [] => []
  | [p] => p
  | p :: q :: ps => p ++ 32 :: joinB (q :: ps)
theorem join_cons (p : List UInt8) {ps : List (List UInt8)} (h : ps ≠ []) : joinB (p :: ps) = p ++ 32 :: joinB ps := by
  cases ps with
  | nil => exact absurd rfl h
  | cons q t => rfl
theorem join_snoc (ps : List (List UInt8)) (p : List UInt8) (h : ps ≠ []) : joinB (ps ++ [p]) = joinB ps ++ 32 :: p := by
  induction ps with
  | nil => exact absurd rfl h
  | cons q t ih =>
    by_cases ht : t = []
    · subst ht; rfl
    · rw [List.cons_append, join_cons q (by simp), ih ht, join_cons q ht, List.append_assoc]; rfl
theorem join_split (l : List UInt8) : joinB (splitB l) = l := by
  induction l with
  | nil => rfl
  | cons c r ih =>
    unfold splitB
    by_cases h : c = 32
    · rw [if_pos h, join_cons _ (split_ne r), ih, h]; rfl
    · rw [if_neg h]
      have hne := split_ne r
      revert ih hne
      cases splitB r with
      | nil => intro _ h; exact absurd rfl h
      | cons p ps =>
        intro ih _
        by_cases hp : ps = []
        · subst hp
          show c :: p = c :: r
          rw [show p = r from ih]
        · show joinB ((c :: p) :: ps) = c :: r
          rw [join_cons _ hp, List.cons_append, ← join_cons p hp, ih]
theorem split_join (ps : List (List UInt8)) (h : ps ≠ []) (hn : ∀ p ∈ ps, NoB p) : splitB (joinB ps) = ps := by
  induction ps with
  | nil => exact absurd rfl h
  | cons p t ih =>
    by_cases ht : t = []
    · subst ht; exact split_none (hn p (by simp))
    · rw [join_cons p ht, split_hit p _ (hn p (by simp)), ih ht fun q hq => hn q (by simp [hq])]
theorem join_parts (l : List UInt8) : joinB (parts l) = l := by
  by_cases h : l = []
  · subst h; rfl
  · rw [parts_some h, join_split]
/-- .. of parts that are not empty. -/
theorem join_ne {ps : List (List UInt8)} (h : ps ≠ []) (hn : ∀ p ∈ ps, p ≠ []) : joinB ps ≠ [] := by
  cases ps with
  | nil => exact absurd rfl h
  | cons p t =>
    by_cases ht : t = []
    · subst ht; exact hn p (by simp)
    · rw [join_cons p ht]; simp
theorem parts_join (ps : List (List UInt8)) (hn : ∀ p ∈ ps, NoB p ∧ p ≠ []) : parts (joinB ps) = ps := by
  by_cases h : ps = []
  · subst h; rfl
  · rw [parts_some (join_ne h fun p hp => (hn p hp).2), split_join ps h fun p hp => (hn p hp).1]
/-! ### Numbers -/
theorem itoa_noB (n : Int) : NoB (itoa n) ∧ itoa n ≠ [] := by
  have h := (form_iff _).1 (itoa_form n).1
  have hd := plain_dig h.1
  have hne := plain_ne h.1
  have hb : ∀ c, dig c = true → c ≠ 32 := by
    intro c hc e
    rw [e] at hc
    exact absurd hc (by decide)
  cases hn : negB (itoa n) with
  | true =>
    rw [neg_true hn]
    refine ⟨fun c hc => ?_, by simp⟩
    rw [List.mem_cons] at hc
    rcases hc with hc | hc
    · rw [hc]; decide
    · exact hb c (hd c hc)
  | false =>
    rw [neg_false hn] at hd hne
    exact ⟨fun c hc => hb c (hd c hc), hne⟩
def RngL (l : List Int) : Prop := ∀ n ∈ l, -9223372036854775808 ≤ n ∧ n ≤ 9223372036854775807
/-- The text of numbers. -/
def listT (l : List Int) : List UInt8 := joinB (l.map itoa)
/-- What is read of a text. -/
def readE (s : List UInt8) : Int := errAt parseE (parts s)
def readAt (s : List UInt8) : Int := plcAt parseE (parts s)
def readL (s : List UInt8) : List Int := (parts s).map parseN
theorem read_list (l : List Int) (h : RngL l) : readE (listT l) = 0 ∧ readL (listT l) = l := by
  have hp : parts (listT l) = l.map itoa := parts_join _ fun p hp => by
    obtain ⟨n, -, rfl⟩ := List.mem_map.1 hp
    exact itoa_noB n
  unfold readE readL
  rw [hp]
  refine ⟨(none_at parseE _ fun p hp => ?_).1, ?_⟩
  · obtain ⟨n, hn, rfl⟩ := List.mem_map.1 hp
    exact (parse_itoa n (h n hn)).1
  · rw [List.map_map]
    conv => rhs; rw [← List.map_id l]
    refine List.map_congr_left fun n hn => ?_
    exact (parse_itoa n (h n hn)).2
theorem list_read {s : List UInt8} (h : readE s = 0) : listT (readL s) = s := by
  have ha := all_first parseE _ ((err_iff parseE _).1 h)
  unfold listT readL
  rw [List.map_map]
  have e : (parts s).map (itoa ∘ parseN) = parts s := by
    conv => rhs; rw [← List.map_id (parts s)]
    exact List.map_congr_left fun p hp => itoa_parse (ha p hp)
  rw [e, join_parts]
theorem read_rng (s : List UInt8) : RngL (readL s) := by
  intro n hn
  obtain ⟨p, -, rfl⟩ := List.mem_map.1 hn
  exact parse_rng p
theorem split_len (l : List UInt8) : (splitB l).length ≤ l.length + 1 := by
  induction l with
  | nil => simp [splitB]
  | cons c r ih =>
    unfold splitB
    split
    · simp; omega
    · revert ih
      cases splitB r with
      | nil => intro _; simp
      | cons p ps => intro h; simp at h ⊢; omega
theorem parts_len (l : List UInt8) : (parts l).length ≤ l.length + 1 := by
  by_cases h : l = []
  · subst h; simp [parts]
  · rw [parts_some h]; exact split_len l
/-- How long a text of numbers is. -/
theorem list_len (l : List Int) (h : RngL l) : (listT l).length ≤ 22 * l.length := by
  unfold listT
  induction l with
  | nil => simp [joinB]
  | cons n t ih =>
    have h1 := itoa_length_le n (h n (by simp)).1 (h n (by simp)).2
    have h2 := ih fun m hm => h m (by simp [hm])
    rw [List.map_cons]
    by_cases ht : t.map itoa = []
    · rw [ht]
      show (itoa n).length ≤ _
      simp; omega
    · rw [join_cons _ ht]
      simp at h2 ⊢; omega
/-! ### The first blank -/
theorem blank_cases (l : List UInt8) : (indexByte l 32 = -1 ∧ NoB l) ∨ ∃ i : Nat, indexByte l 32 = i ∧ i < l.length ∧ l = l.take i ++ 32 :: l.drop (i + 1) ∧ NoB (l.take i) := by
  induction l with
  | nil => exact Or.inl ⟨rfl, fun c hc => by simp at hc⟩
  | cons b r ih =>
    by_cases hb : b = 32
    · subst hb
      refine Or.inr ⟨0, ?_, by simp, rfl, fun c hc => by simp at hc⟩
      unfold indexByte; rw [if_pos (by simp)]; rfl
    · have hbe : (b == 32) = false := beq_eq_false_iff_ne.2 hb
      rcases ih with ⟨h1, h2⟩ | ⟨i, h1, h2, h3, h4⟩
      · refine Or.inl ⟨?_, fun c hc => ?_⟩
        · unfold indexByte; rw [hbe, h1]; rfl
        · rw [List.mem_cons] at hc
          rcases hc with hc | hc
          · rw [hc]; exact hb
          · exact h2 c hc
      · refine Or.inr ⟨i + 1, ?_, by simp; omega, ?_, fun c hc => ?_⟩
        · unfold indexByte
          rw [hbe, h1, if_neg (by simp), if_neg (by rw [beq_iff_eq]; omega)]; omega
        · rw [List.take_succ_cons, List.drop_succ_cons, List.cons_append, ← h3]
        · rw [List.take_succ_cons, List.mem_cons] at hc
          rcases hc with hc | hc
          · rw [hc]; exact hb
          · exact h4 c hc
end Go.Proofs.YtdianpdjcgcifaaDoor.DecPure
