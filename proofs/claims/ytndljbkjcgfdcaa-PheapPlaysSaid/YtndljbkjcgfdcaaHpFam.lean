/- Families: below which cell which ones hang, in which order, and that the nodes tell just that; what hanging, cutting, taking away and planting make of them. Plain facts: no function of the program is named. -/
import Derived.Test.YtndljbkjcgfdcaaHpPure
namespace Go.Proofs.Ytndljbkjcgfdcaa
namespace HpPure
open NdPure
/-- The cell is given. -/
abbrev G (S : St) (c : Int) : Prop := hasB S c = true
theorem G.nonneg {S : St} {c : Int} (h : G S c) : 0 ≤ c := by
  obtain ⟨k, rfl, -, -⟩ := has_yes h
  omega
theorem not_G_neg {S : St} : ¬ G S (-1) := fun h => by have := h.nonneg; omega
/-- What is in each is told for each that was ever given. -/
def Even (S : St) : Prop := S.X.length = S.I.length
theorem has_set (S : St) (k : Int) (x : Nd) (n : Int) : hasB (setS S k x) n = hasB S n := by
  unfold setS
  split
  · rfl
  · rfl
theorem set_I (S : St) (k : Int) (x : Nd) : (setS S k x).I = S.I := by unfold setS; split <;> rfl
theorem even_set {S : St} (h : Even S) (k : Int) (x : Nd) : Even (setS S k x) := by
  unfold setS
  split
  · simpa [Even, layS] using h
  · exact h
theorem at_set {S : St} (he : Even S) {k : Int} (hk : G S k) (x : Nd) (n : Int) : atV (setS S k x) n = if n = k then x else atV S n := by
  have h1 := has_set S k x n
  unfold atV
  rw [h1]
  obtain ⟨j, rfl, hj, -⟩ := has_yes hk
  have hs : setS S (j : Int) x = layS S j x := by unfold setS; rw [if_pos hk, Int.toNat_natCast]
  by_cases hn : hasB S n = true
  · rw [if_pos hn, if_pos hn, hs]
    obtain ⟨m, rfl, hm, -⟩ := has_yes hn
    unfold Even at he
    show (S.X.set j x).getD _ nd0 = _
    rw [Int.toNat_natCast, List.getD_eq_getElem?_getD, List.getElem?_set]
    by_cases e : j = m
    · subst e
      rw [if_pos rfl, if_pos (by omega), if_pos rfl]
      rfl
    · rw [if_neg e, if_neg (by omega), List.getD_eq_getElem?_getD]
  · rw [if_neg hn, if_neg hn, if_neg (fun e => hn (by rw [e]; exact hk))]
theorem set_no {S : St} {k : Int} (hk : ¬ G S k) (x : Nd) : setS S k x = S := if_neg hk
theorem G_set {S : St} {k : Int} {x : Nd} {n : Int} : G (setS S k x) n ↔ G S n := by unfold G; rw [has_set]
/-- The first one of a list; none of an empty one. -/
def hd (l : List Int) : Int := l.headD (-1)
theorem hd_nil : hd [] = -1 := rfl
theorem hd_cons (c : Int) (l : List Int) : hd (c :: l) = c := rfl
/-- A list whose members tell what is behind, and what is ahead of, each. -/
def Lk (S : St) : Int → List Int → Prop
  | _, [] => True
  | pv, c :: r => (atV S c).back = pv ∧ (atV S c).next = hd r ∧ Lk S c r
theorem lk_same {S S' : St} : ∀ {l : List Int} {pv : Int}, Lk S pv l → (∀ c ∈ l, (atV S' c).back = (atV S c).back ∧ (atV S' c).next = (atV S c).next) → Lk S' pv l
  | [], _, _, _ => trivial
  | c :: r, pv, ⟨h1, h2, h3⟩, hs => ⟨(hs c List.mem_cons_self).1.trans h1, (hs c List.mem_cons_self).2.trans h2, lk_same h3 (fun d hd => hs d (List.mem_cons_of_mem _ hd))⟩
/-- A list whose members tell what is behind each. -/
def Ch (S : St) : Int → List Int → Prop
  | l, [] => l = -1
  | l, c :: r => l = c ∧ Ch S (atV S c).next r
theorem ch_hd {S : St} {l : Int} {L : List Int} (h : Ch S l L) : l = hd L := by
  cases L with
  | nil => exact h
  | cons c r => exact h.1
theorem ch_same {S S' : St} : ∀ {L : List Int} {l : Int}, Ch S l L → (∀ c ∈ L, (atV S' c).next = (atV S c).next) → Ch S' l L
  | [], _, h, _ => h
  | c :: r, l, ⟨h1, h2⟩, hs => ⟨h1, by rw [hs c List.mem_cons_self]; exact ch_same h2 (fun d hd => hs d (List.mem_cons_of_mem _ hd))⟩
theorem lk_ch {S : St} : ∀ {l : List Int} {pv : Int}, Lk S pv l → Ch S (hd l) l
  | [], _, _ => rfl
  | c :: r, _, ⟨_, h2, h3⟩ => ⟨rfl, by rw [h2]; exact lk_ch h3⟩
structure Fam (Y : List Int) (S : St) (K : Int → List Int) : Prop where
  kid : ∀ p c, c ∈ K p → G S p ∧ G S c
  one : ∀ p q c, c ∈ K p → c ∈ K q → p = q
  nodup : ∀ p, (K p).Nodup
  ahead : ∀ p c, c ∈ K p → aheadB Y (atV S p).v (atV S c).v = true
  below : ∀ p, G S p → (atV S p).below = hd (K p)
  lk : ∀ p, Lk S p (K p)
/-- The cell hangs below none. -/
def Top (S : St) (K : Int → List Int) (c : Int) : Prop := G S c ∧ ∀ p, c ∉ K p
theorem ahead_irr (Y : List Int) (u : Int) : aheadB Y u u = false := by unfold aheadB; simp
theorem ahead_asym {Y : List Int} {u v : Int} (h : aheadB Y u v = true) : aheadB Y v u = false := by
  unfold aheadB at *
  simp only [Bool.or_eq_true, Bool.and_eq_true, decide_eq_true_eq] at h
  simp only [Bool.or_eq_false_iff, Bool.and_eq_false_iff, decide_eq_false_iff_not]
  omega
theorem ahead_total {Y : List Int} {u v : Int} (h : u ≠ v) (hn : aheadB Y u v = false) : aheadB Y v u = true := by
  unfold aheadB at *
  simp only [Bool.or_eq_false_iff, Bool.and_eq_false_iff, decide_eq_false_iff_not] at hn
  simp only [Bool.or_eq_true, Bool.and_eq_true, decide_eq_true_eq]
  omega
theorem ahead_trans {Y : List Int} {u v x : Int} (h1 : aheadB Y u v = true) (h2 : aheadB Y v x = true) : aheadB Y u x = true := by
  unfold aheadB at *
  simp only [Bool.or_eq_true, Bool.and_eq_true, decide_eq_true_eq] at *
  omega
theorem Fam.self {Y : List Int} {S : St} {K : Int → List Int} (h : Fam Y S K) (p : Int) : p ∉ K p := fun e => by
  have := h.ahead p p e
  rw [ahead_irr] at this
  cases this
theorem hd_mem {l : List Int} (h : l ≠ []) : hd l ∈ l := by
  cases l with
  | nil => exact absurd rfl h
  | cons c r => exact List.mem_cons_self
/-- What setting back makes. -/
theorem at_back {S : St} (he : Even S) (c b n : Int) : atV (setBackS S c b) n = if n = c ∧ G S c then ⟨(atV S n).v, (atV S n).below, (atV S n).next, b⟩ else atV S n := by
  unfold setBackS
  by_cases hc : G S c
  · rw [at_set he hc]
    by_cases hn : n = c
    · subst hn; rw [if_pos rfl, if_pos ⟨rfl, hc⟩]
    · rw [if_neg hn, if_neg (fun e => hn e.1)]
  · rw [set_no hc, if_neg (fun e => hc e.2)]
theorem G_back {S : St} {c b n : Int} : G (setBackS S c b) n ↔ G S n := G_set
theorem even_back {S : St} (h : Even S) (c b : Int) : Even (setBackS S c b) := even_set h _ _
theorem G_hang {S : St} {t a n : Int} : G (hangS S t a) n ↔ G S n := by unfold hangS; rw [G_set, G_set, G_back]
theorem hang_I (S : St) (t a : Int) : (hangS S t a).I = S.I := by unfold hangS setBackS; rw [set_I, set_I, set_I]
theorem even_hang {S : St} (h : Even S) (t a : Int) : Even (hangS S t a) := even_set (even_set (even_back h _ _) _ _) _ _
theorem at_hang {S : St} (he : Even S) {t a : Int} (ht : G S t) (ha : G S a) (h1 : (atV S a).below ≠ t) (h2 : (atV S a).below ≠ a) (n : Int) :
    atV (hangS S t a) n = if n = a then ⟨(atV S a).v, t, (atV S a).next, (atV S a).back⟩ else if n = t then ⟨(atV S t).v, (atV S t).below, (atV S a).below, a⟩ else
      if n = (atV S a).below ∧ G S (atV S a).below then ⟨(atV S n).v, (atV S n).below, (atV S n).next, t⟩ else atV S n := by
  unfold hangS
  rw [at_set (even_set (even_back he _ _) _ _) (by rw [G_set, G_back]; exact ha), at_set (even_back he _ _) (by rw [G_back]; exact ht), at_back he]
/-- Below a another top is hung, which it is ahead of. -/
def hangK (K : Int → List Int) (t a : Int) : Int → List Int := fun p => if p = a then t :: K a else K p
theorem hangK_mem {K : Int → List Int} {t a p c : Int} : c ∈ hangK K t a p ↔ (p = a ∧ c = t) ∨ c ∈ K p := by
  unfold hangK
  by_cases e : p = a
  · subst e; rw [if_pos rfl, List.mem_cons]; simp
  · rw [if_neg e]; simp [e]
section
variable {Y : List Int} {S : St} {K : Int → List Int}
theorem Fam.below_off (h : Fam Y S K) {a t : Int} (ha : G S a) (ht : Top S K t) : (atV S a).below ≠ t ∧ (atV S a).below ≠ a := by
  rw [h.below a ha]
  by_cases e : K a = []
  · rw [e, hd_nil]
    exact ⟨fun e2 => not_G_neg (by rw [e2]; exact ht.1), fun e2 => not_G_neg (by rw [e2]; exact ha)⟩
  · have := hd_mem e
    exact ⟨fun e2 => ht.2 a (by rw [← e2]; exact this), fun e2 => h.self a (by rw [e2] at this; exact this)⟩
theorem hang_v (h : Fam Y S K) (he : Even S) {t a : Int} (ht : Top S K t) (ha : G S a) (n : Int) : (atV (hangS S t a) n).v = (atV S n).v := by
  obtain ⟨h1, h2⟩ := h.below_off ha ht
  rw [at_hang he ht.1 ha h1 h2]
  split
  · next e => rw [e]
  · split
    · next e => rw [e]
    · split <;> rfl
theorem hang_next (h : Fam Y S K) (he : Even S) {t a : Int} (ht : Top S K t) (ha : G S a) {n : Int} (hn : n ≠ t) : (atV (hangS S t a) n).next = (atV S n).next := by
  obtain ⟨h1, h2⟩ := h.below_off ha ht
  rw [at_hang he ht.1 ha h1 h2]
  by_cases e : n = a
  · rw [if_pos e, e]
  · rw [if_neg e, if_neg hn]; split <;> rfl
theorem Fam.hang (h : Fam Y S K) (he : Even S) {t a : Int} (ht : Top S K t) (ha : G S a) (hne : t ≠ a) (hah : aheadB Y (atV S a).v (atV S t).v = true) : Fam Y (hangS S t a) (hangK K t a) := by
  obtain ⟨h1, h2⟩ := h.below_off ha ht
  have hat := at_hang he ht.1 ha h1 h2
  have hv := hang_v h he ht ha
  have hb := h.below a ha
  refine ⟨fun p c hc => ?_, fun p q c hp hq => ?_, fun p => ?_, fun p c hc => ?_, fun p hp => ?_, fun p => ?_⟩
  · rw [G_hang, G_hang]
    rcases hangK_mem.1 hc with ⟨rfl, rfl⟩ | hc
    · exact ⟨ha, ht.1⟩
    · exact h.kid p c hc
  · rcases hangK_mem.1 hp with ⟨e1, e2⟩ | hp2
    · rcases hangK_mem.1 hq with ⟨e3, -⟩ | hq2
      · rw [e1, e3]
      · exact absurd hq2 (by rw [e2]; exact ht.2 q)
    · rcases hangK_mem.1 hq with ⟨e1, e2⟩ | hq2
      · exact absurd hp2 (by rw [e2]; exact ht.2 p)
      · exact h.one p q c hp2 hq2
  · unfold hangK
    split
    · exact List.nodup_cons.2 ⟨ht.2 a, h.nodup a⟩
    · exact h.nodup p
  · rw [hv, hv]
    rcases hangK_mem.1 hc with ⟨rfl, rfl⟩ | hc
    · exact hah
    · exact h.ahead p c hc
  · rw [G_hang] at hp
    rw [hat]
    unfold hangK
    by_cases e : p = a
    · rw [if_pos e, if_pos e]; rfl
    · rw [if_neg e, if_neg e]
      split
      · next e2 => rw [← e2]; exact h.below p hp
      · split
        · exact h.below p hp
        · exact h.below p hp
  · unfold hangK
    by_cases e : p = a
    · subst e
      rw [if_pos rfl]
      refine ⟨by rw [hat, if_neg hne, if_pos rfl], by rw [hat, if_neg hne, if_pos rfl]; exact hb, ?_⟩
      cases hk : K p with
      | nil => trivial
      | cons c r =>
        have hl := h.lk p
        have hn := h.nodup p
        rw [hk] at hl hn
        have hc : c ∈ K p := by rw [hk]; exact List.mem_cons_self
        have hcp : c ≠ p := fun e => h.self p (by rw [← e] at hc ⊢; exact hc)
        have hct : c ≠ t := fun e => ht.2 p (by rw [← e]; exact hc)
        have hbc : (atV S p).below = c := by rw [hb, hk]; rfl
        refine ⟨by rw [hat, if_neg hcp, if_neg hct, if_pos ⟨hbc.symm, by rw [hbc]; exact (h.kid p c hc).2⟩], by rw [hang_next h he ht ha hct]; exact hl.2.1, ?_⟩
        refine lk_same hl.2.2 fun d hdr => ?_
        have hdk : d ∈ K p := by rw [hk]; exact List.mem_cons_of_mem _ hdr
        have hdp : d ≠ p := fun e => h.self p (by rw [← e] at hdk ⊢; exact hdk)
        have hdt : d ≠ t := fun e => ht.2 p (by rw [← e]; exact hdk)
        have hdc : d ≠ c := fun e => (List.nodup_cons.1 hn).1 (by rw [← e]; exact hdr)
        rw [hat, if_neg hdp, if_neg hdt, if_neg (fun e => hdc (e.1.trans hbc))]
        exact ⟨rfl, rfl⟩
    · rw [if_neg e]
      refine lk_same (h.lk p) fun d hdk => ?_
      have hdt : d ≠ t := fun e => ht.2 p (by rw [← e]; exact hdk)
      rw [hat]
      by_cases e2 : d = a
      · rw [if_pos e2, e2]; exact ⟨rfl, rfl⟩
      · rw [if_neg e2, if_neg hdt, if_neg (fun e2 => ?_)]
        · exact ⟨rfl, rfl⟩
        · have hka : K a ≠ [] := fun e3 => by rw [hb, e3, hd_nil] at e2; exact not_G_neg e2.2
          exact e (h.one p a d hdk (by rw [e2.1, hb]; exact hd_mem hka))
end
end HpPure
end Go.Proofs.Ytndljbkjcgfdcaa
