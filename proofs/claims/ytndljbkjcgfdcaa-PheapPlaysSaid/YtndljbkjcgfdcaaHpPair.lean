/- Families: what planting, melding, and pairing a list make of them; keys that are laid anew. Plain facts: no function of the program is named. -/
import Derived.Test.YtndljbkjcgfdcaaHpCut
namespace Go.Proofs.Ytndljbkjcgfdcaa
namespace HpPure
open NdPure
section
variable {Y : List Int} {S : St} {K : Int → List Int}
/-- What is given anew was not given, and nothing else is otherwise. -/
theorem give_new {N : Nat} (hg : GoodS N S) (hl : liveN S ≠ N) (x : Nd) : ¬ G S (giveN N S) ∧ 0 ≤ giveN N S ∧ (∀ n, G (giveS N S x) n ↔ G S n ∨ n = giveN N S) ∧ ∀ n, atV (giveS N S x) n = if n = giveN N S then x else atV S n := by
  have e1 : giveN N S = (firstN S : Int) := if_neg hl
  have e2 : giveS N S x = putS S x := if_neg hl
  have hx := hg.1
  rw [e1, e2]
  cases hF : S.F with
  | nil =>
    have e3 : firstN S = S.I.length := by unfold firstN; rw [hF]; rfl
    have e4 : putS S x = ⟨S.X ++ [x], S.I ++ [true], []⟩ := by unfold putS; rw [hF]
    rw [e3, e4]
    have hG : ∀ n, hasB ⟨S.X ++ [x], S.I ++ [true], []⟩ n = true ↔ hasB S n = true ∨ n = (S.I.length : Int) := by
      intro n
      by_cases h0 : n < 0
      · rw [has_low h0, has_low h0]; simp; omega
      obtain ⟨k, rfl⟩ := Int.eq_ofNat_of_zero_le (by omega : 0 ≤ n)
      by_cases h1 : k < S.I.length
      · rw [has_of (S := ⟨S.X ++ [x], S.I ++ [true], []⟩) (by simp; omega), has_of h1]
        have : ¬ (k : Int) = (S.I.length : Int) := by omega
        simp [List.getElem_append_left h1, this]
      · by_cases h2 : k = S.I.length
        · subst h2
          rw [has_of (S := ⟨S.X ++ [x], S.I ++ [true], []⟩) (by simp)]
          simp
        · rw [has_past (by simp; omega), has_past (by omega)]
          simp
          omega
    refine ⟨fun e => ?_, by omega, hG, fun n => ?_⟩
    · have := has_past (S := S) (n := (S.I.length : Int)) (by omega)
      rw [show hasB S (S.I.length : Int) = true from e] at this
      cases this
    · unfold atV
      by_cases h : hasB S n = true
      · obtain ⟨k, rfl, hk, -⟩ := has_yes h
        rw [if_pos ((hG _).2 (Or.inl h)), if_pos h, if_neg (by omega)]
        show (S.X ++ [x]).getD _ nd0 = _
        rw [Int.toNat_natCast, List.getD_eq_getElem?_getD, List.getD_eq_getElem?_getD, List.getElem?_append_left (by omega)]
      · by_cases h2 : n = (S.I.length : Int)
        · rw [if_pos ((hG _).2 (Or.inr h2)), if_pos h2, h2]
          show (S.X ++ [x]).getD _ nd0 = _
          rw [Int.toNat_natCast, List.getD_eq_getElem?_getD, ← hx, List.getElem?_append_right (Nat.le_refl _)]
          simp
        · rw [if_neg (fun e => ((hG _).1 e).elim h h2), if_neg h2, if_neg h]
  | cons f r =>
    obtain ⟨hf1, hf2, -⟩ := first_free hg hF
    have e3 : firstN S = f := by unfold firstN; rw [hF]; rfl
    have e4 : putS S x = ⟨S.X.set f x, S.I.set f true, r⟩ := by unfold putS; rw [hF]
    rw [e3, e4]
    have hno : ¬ hasB S (f : Int) = true := by
      rw [has_of hf1]
      have := (List.getElem?_eq_some_iff.1 hf2).2
      rw [this]
      decide
    have hG : ∀ n, hasB ⟨S.X.set f x, S.I.set f true, r⟩ n = true ↔ hasB S n = true ∨ n = (f : Int) := by
      intro n
      by_cases h0 : n < 0
      · rw [has_low h0, has_low h0]; simp; omega
      obtain ⟨k, rfl⟩ := Int.eq_ofNat_of_zero_le (by omega : 0 ≤ n)
      by_cases h1 : k < S.I.length
      · rw [has_of (S := ⟨S.X.set f x, S.I.set f true, r⟩) (by simp; omega), has_of h1]
        by_cases h2 : f = k
        · subst h2; simp
        · have : ¬ (k : Int) = (f : Int) := by omega
          simp [List.getElem_set_ne h2, this]
      · rw [has_past (by simp; omega), has_past (by omega)]
        simp
        omega
    refine ⟨hno, by omega, hG, fun n => ?_⟩
    unfold atV
    by_cases h2 : n = (f : Int)
    · rw [if_pos ((hG _).2 (Or.inr h2)), if_pos h2, h2]
      show (S.X.set f x).getD _ nd0 = _
      rw [Int.toNat_natCast, List.getD_eq_getElem?_getD, List.getElem?_set, if_pos rfl, if_pos (by omega)]
      rfl
    · rw [if_neg h2]
      by_cases h : hasB S n = true
      · obtain ⟨k, rfl, hk, -⟩ := has_yes h
        rw [if_pos ((hG _).2 (Or.inl h)), if_pos h]
        show (S.X.set f x).getD _ nd0 = _
        rw [Int.toNat_natCast, List.getD_eq_getElem?_getD, List.getD_eq_getElem?_getD, List.getElem?_set, if_neg (by omega)]
      · rw [if_neg (fun e => ((hG _).1 e).elim h h2), if_neg h]
theorem Fam.plant (h : Fam Y S K) {N : Nat} (hg : GoodS N S) (hl : liveN S ≠ N) (v : Int) : Fam Y (plantS N S v) K := by
  obtain ⟨h1, h2, h3, h4⟩ := give_new hg hl ⟨v, -1, 0, 0⟩
  have hk : ∀ c, G S c → atV (plantS N S v) c = atV S c := fun c hc => (h4 c).trans (if_neg (fun e => h1 (by rw [← e]; exact hc)))
  refine ⟨fun q c hc => ⟨(h3 q).2 (Or.inl (h.kid q c hc).1), (h3 c).2 (Or.inl (h.kid q c hc).2)⟩, h.one, h.nodup, fun q c hc => ?_, fun q hq => ?_, fun q => ?_⟩
  · rw [hk q (h.kid q c hc).1, hk c (h.kid q c hc).2]
    exact h.ahead q c hc
  · rcases (h3 q).1 hq with hq | hq
    · rw [hk q hq]; exact h.below q hq
    · have e : K q = [] := by
        cases e : K q with
        | nil => rfl
        | cons c r => exact absurd (h.kid q c (by rw [e]; exact List.mem_cons_self)).1 (by rw [hq]; exact h1)
      rw [e]
      show (atV (giveS N S _) q).below = -1
      rw [h4, if_pos hq]
  · exact lk_same (h.lk q) fun c hc => by rw [hk c (h.kid q c hc).2]; exact ⟨rfl, rfl⟩
theorem top_plant (h : Fam Y S K) {N : Nat} (hg : GoodS N S) (hl : liveN S ≠ N) (v : Int) {c : Int} : Top (plantS N S v) K c ↔ Top S K c ∨ c = giveN N S := by
  obtain ⟨h1, h2, h3, h4⟩ := give_new hg hl ⟨v, -1, 0, 0⟩
  unfold Top
  constructor
  · rintro ⟨g, k⟩
    rcases (h3 c).1 g with g | g
    · exact Or.inl ⟨g, k⟩
    · exact Or.inr g
  · rintro (⟨g, k⟩ | rfl)
    · exact ⟨(h3 c).2 (Or.inl g), k⟩
    · exact ⟨(h3 _).2 (Or.inr rfl), fun q hq => h1 (h.kid q _ hq).2⟩
/-- Keys of vertices that are not in say nothing. -/
theorem Fam.keys (h : Fam Y S K) {Y' : List Int} (hy : ∀ c, G S c → keyAt Y' (atV S c).v = keyAt Y (atV S c).v) : Fam Y' S K := by
  refine ⟨h.kid, h.one, h.nodup, fun q c hc => ?_, h.below, h.lk⟩
  have := h.ahead q c hc
  unfold aheadB at *
  rw [hy q (h.kid q c hc).1, hy c (h.kid q c hc).2]
  exact this
/-- The key of a top may rise. -/
theorem Fam.rise (h : Fam Y S K) {Y' : List Int} {t : Int} (ht : Top S K t) (hy : ∀ c, G S c → c ≠ t → keyAt Y' (atV S c).v = keyAt Y (atV S c).v) (hr : keyAt Y (atV S t).v ≤ keyAt Y' (atV S t).v) : Fam Y' S K := by
  refine ⟨h.kid, h.one, h.nodup, fun q c hc => ?_, h.below, h.lk⟩
  have hct : c ≠ t := fun e => ht.2 q (by rw [← e]; exact hc)
  have h1 := h.ahead q c hc
  have hc' := hy c (h.kid q c hc).2 hct
  by_cases e : q = t
  · subst e
    unfold aheadB at *
    rw [hc']
    simp only [Bool.or_eq_true, Bool.and_eq_true, decide_eq_true_eq] at *
    omega
  · unfold aheadB at *
    rw [hc', hy q (h.kid q c hc).1 e]
    exact h1
theorem meld_I (Y : List Int) (S : St) (a c : Int) : (meldS Y S a c).I = S.I := by
  unfold meldS
  split
  · rfl
  · split
    · rfl
    · split <;> exact hang_I _ _ _
/-- What melding makes: of two tops, of which each may be none. -/
structure MeldOut (Y : List Int) (S : St) (K : Int → List Int) (a c : Int) (K' : Int → List Int) : Prop where
  fam : Fam Y (meldS Y S a c) K'
  even : Even (meldS Y S a c)
  g : ∀ n, G (meldS Y S a c) n ↔ G S n
  v : ∀ n, (atV (meldS Y S a c) n).v = (atV S n).v
  next : ∀ n, n ≠ a → n ≠ c → (atV (meldS Y S a c) n).next = (atV S n).next
  tops : ∀ x, Top (meldS Y S a c) K' x ↔ Top S K x ∧ (x = meldN Y S a c ∨ (x ≠ a ∧ x ≠ c))
  one : meldN Y S a c = a ∨ meldN Y S a c = c
  none : meldN Y S a c = -1 ↔ a = -1 ∧ c = -1
theorem Fam.meld (h : Fam Y S K) (he : Even S) (hi : ∀ x y, G S x → G S y → (atV S x).v = (atV S y).v → x = y) {a c : Int} (ha : a = -1 ∨ Top S K a) (hc : c = -1 ∨ Top S K c) (hne : a = c → a = -1) : ∃ K', MeldOut Y S K a c K' := by
  have hneg : ∀ x, Top S K x → x ≠ -1 := fun x hx e => not_G_neg (by rw [← e]; exact hx.1)
  by_cases e1 : a = -1
  · have e2 : meldS Y S a c = S := if_pos e1
    have e3 : meldN Y S a c = c := if_pos e1
    refine ⟨K, by rw [e2]; exact h, by rw [e2]; exact he, fun n => by rw [e2], fun n => by rw [e2], fun n _ _ => by rw [e2], fun x => ?_, Or.inr e3, by rw [e3]; exact ⟨fun e => ⟨e1, e⟩, fun e => e.2⟩⟩
    rw [e2, e3]
    constructor
    · intro hx
      refine ⟨hx, ?_⟩
      by_cases e4 : x = c
      · exact Or.inl e4
      · exact Or.inr ⟨fun e5 => hneg x hx (e5.trans e1), e4⟩
    · exact fun hx => hx.1
  by_cases e2 : c = -1
  · have e3 : meldS Y S a c = S := by unfold meldS; rw [if_neg e1, if_pos e2]
    have e4 : meldN Y S a c = a := by unfold meldN; rw [if_neg e1, if_pos e2]
    refine ⟨K, by rw [e3]; exact h, by rw [e3]; exact he, fun n => by rw [e3], fun n => by rw [e3], fun n _ _ => by rw [e3], fun x => ?_, Or.inl e4, by rw [e4]; exact ⟨fun e => absurd e e1, fun e => e.1⟩⟩
    rw [e3, e4]
    constructor
    · intro hx
      refine ⟨hx, ?_⟩
      by_cases e5 : x = a
      · exact Or.inl e5
      · exact Or.inr ⟨e5, fun e6 => hneg x hx (e6.trans e2)⟩
    · exact fun hx => hx.1
  have ta : Top S K a := ha.resolve_left e1
  have tc : Top S K c := hc.resolve_left e2
  have hac : a ≠ c := fun e => e1 (hne e)
  by_cases hd : aheadB Y (atV S a).v (atV S c).v = true
  · have e3 : meldS Y S a c = hangS S c a := by unfold meldS; rw [if_neg e1, if_neg e2, if_pos hd]
    have e4 : meldN Y S a c = a := by unfold meldN; rw [if_neg e1, if_neg e2, if_pos hd]
    refine ⟨hangK K c a, by rw [e3]; exact h.hang he tc ta.1 (fun e => hac e.symm) hd, by rw [e3]; exact even_hang he _ _, fun n => by rw [e3]; exact G_hang, fun n => by rw [e3]; exact hang_v h he tc ta.1 n, fun n _ hn => by rw [e3]; exact hang_next h he tc ta.1 hn, fun x => ?_, Or.inl e4, by rw [e4]; exact ⟨fun e => absurd e e1, fun e => e.1⟩⟩
    rw [e3, e4, top_hang]
    constructor
    · rintro ⟨hx, hxc⟩
      refine ⟨hx, ?_⟩
      by_cases e5 : x = a
      · exact Or.inl e5
      · exact Or.inr ⟨e5, hxc⟩
    · rintro ⟨hx, rfl | hx2⟩
      · exact ⟨hx, hac⟩
      · exact ⟨hx, hx2.2⟩
  · have hd' : aheadB Y (atV S a).v (atV S c).v = false := by simpa using hd
    have hvn : (atV S a).v ≠ (atV S c).v := fun e => hac (hi a c ta.1 tc.1 e)
    have e3 : meldS Y S a c = hangS S a c := by unfold meldS; rw [if_neg e1, if_neg e2, if_neg hd]
    have e4 : meldN Y S a c = c := by unfold meldN; rw [if_neg e1, if_neg e2, if_neg hd]
    refine ⟨hangK K a c, by rw [e3]; exact h.hang he ta tc.1 hac (ahead_total hvn hd'), by rw [e3]; exact even_hang he _ _, fun n => by rw [e3]; exact G_hang, fun n => by rw [e3]; exact hang_v h he ta tc.1 n, fun n hn _ => by rw [e3]; exact hang_next h he ta tc.1 hn, fun x => ?_, Or.inr e4, by rw [e4]; exact ⟨fun e => absurd e e2, fun e => e.2⟩⟩
    rw [e3, e4, top_hang]
    constructor
    · rintro ⟨hx, hxa⟩
      refine ⟨hx, ?_⟩
      by_cases e5 : x = c
      · exact Or.inl e5
      · exact Or.inr ⟨hxa, e5⟩
    · rintro ⟨hx, rfl | hx2⟩
      · exact ⟨hx, fun e => hac e.symm⟩
      · exact ⟨hx, hx2.1⟩
end
end HpPure
end Go.Proofs.Ytndljbkjcgfdcaa
