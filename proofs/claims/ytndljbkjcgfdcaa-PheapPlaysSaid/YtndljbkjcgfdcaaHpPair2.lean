/- Families: the rounds of pairing a list; how many cells there are. Plain facts: no function of the program is named. -/
import Derived.Test.YtndljbkjcgfdcaaHpPair
import Derived.Test.YtndljbkjcgfdcaaHpTake
namespace Go.Proofs.Ytndljbkjcgfdcaa
namespace HpPure
open NdPure
theorem ch_rest {S : St} {l : Int} {L : List Int} (h : Ch S l L) (hn : ∀ c ∈ L, c ≠ -1) : Ch S (restN S l) L.tail := by
  cases L with
  | nil => rw [show l = -1 from h]; exact rfl
  | cons c r =>
    obtain ⟨rfl, h2⟩ := h
    unfold restN
    rw [if_neg (hn l List.mem_cons_self)]
    exact h2
/-- While a list is paired: what is left of it, the pairs so far, what they are made into; how often something was hung. -/
structure PairP (Y : List Int) (S0 S : St) (ex list pairs whole : Int) (L P : List Int) (K : Int → List Int) (q n : Nat) : Prop where
  fam : Fam Y S K
  even : Even S
  i : S.I = S0.I
  g : ∀ c, G S c ↔ G S0 c
  v : ∀ c, (atV S c).v = (atV S0 c).v
  chL : Ch S list L
  chP : Ch S pairs P
  first : L ≠ [] → whole = -1
  nod : (P ++ L).Nodup
  off : whole ∉ P
  exo : ex ∉ P ∧ ex ∉ L ∧ (ex ≠ -1 → ex ≠ whole)
  tops : ∀ c, Top S K c ↔ (c = whole ∧ whole ≠ -1) ∨ c ∈ P ∨ c ∈ L ∨ (c = ex ∧ ex ≠ -1)
  cnt : n + P.length + L.length + (if whole = -1 then 0 else 1) = q
section
variable {Y : List Int} {S0 S : St} {ex list pairs whole : Int} {L P : List Int} {K : Int → List Int} {q n : Nat}
theorem top_neg {c : Int} (h : Top S K c) : c ≠ -1 := fun e => not_G_neg (by rw [← e]; exact h.1)
theorem PairP.notN (h : PairP Y S0 S ex list pairs whole L P K q n) : (∀ c ∈ L, c ≠ -1) ∧ ∀ c ∈ P, c ≠ -1 :=
  ⟨fun c hc => top_neg ((h.tops c).2 (Or.inr (Or.inr (Or.inl hc)))), fun c hc => top_neg ((h.tops c).2 (Or.inr (Or.inl hc)))⟩
theorem PairP.one {a : Int} {r : List Int} (h : PairP Y S0 S ex list pairs whole (a :: r) P K q n) (hi : ∀ x y, G S0 x → G S0 y → (atV S0 x).v = (atV S0 y).v → x = y) :
    (list = a ∧ a ≠ -1 ∧ restN S list = hd r) ∧ (G S a ∧ (hd r ≠ -1 → G S (hd r))) ∧
    ∃ K', PairP Y S0 (putS' (meldS Y S a (hd r)) (meldN Y S a (hd r)) pairs) ex (restN S (hd r)) (meldN Y S a (hd r)) whole r.tail (meldN Y S a (hd r) :: P) K' q (n + (meldL a (hd r)).toNat) := by
  have hne := h.notN.1
  have ta : Top S K a := (h.tops a).2 (Or.inr (Or.inr (Or.inl List.mem_cons_self)))
  have han : a ≠ -1 := top_neg ta
  have hw : whole = -1 := h.first (by simp)
  have hcl := h.chL
  have hrest : restN S list = hd r := by
    have := ch_rest hcl hne
    exact ch_hd this
  have hb : hd r = -1 ∨ Top S K (hd r) := by
    by_cases e : r = []
    · left; rw [e]; rfl
    · right; exact (h.tops _).2 (Or.inr (Or.inr (Or.inl (List.mem_cons_of_mem _ (hd_mem e)))))
  have hnod := List.nodup_append.1 h.nod
  have har := List.nodup_cons.1 hnod.2.1
  have hab : a = hd r → a = -1 := fun e => by
    by_cases e2 : r = []
    · rw [e, e2]; rfl
    · exact absurd (by rw [e]; exact hd_mem e2) har.1
  have hi' : ∀ x y, G S x → G S y → (atV S x).v = (atV S y).v → x = y := fun x y hx hy e => hi x y ((h.g x).1 hx) ((h.g y).1 hy) (by rw [← h.v, ← h.v]; exact e)
  obtain ⟨K', mo⟩ := h.fam.meld h.even hi' (Or.inr ta) hb hab
  have hwn : meldN Y S a (hd r) ≠ -1 := fun e => han (mo.none.1 e).1
  have tw0 : Top S K (meldN Y S a (hd r)) := by
    rcases mo.one with e | e
    · rw [e]; exact ta
    · rw [e]; exact hb.resolve_left (fun e2 => hwn (e.trans e2))
  have tw : Top (meldS Y S a (hd r)) K' (meldN Y S a (hd r)) := (mo.tops _).2 ⟨tw0, Or.inl rfl⟩
  have hat := at_put mo.even tw.1 pairs
  have hch2 : Ch S (restN S (hd r)) r.tail := by
    have h1 := ch_rest hcl hne
    rw [hrest] at h1
    exact ch_rest h1 (fun c hc => hne c (List.mem_cons_of_mem _ hc))
  have hPa : ∀ c ∈ P, c ≠ a ∧ c ≠ hd r := fun c hc => ⟨hnod.2.2 c hc a List.mem_cons_self, fun e => by
    by_cases e2 : r = []
    · exact h.notN.2 c hc (by rw [e, e2]; rfl)
    · exact hnod.2.2 c hc (hd r) (List.mem_cons_of_mem _ (hd_mem e2)) e⟩
  have hTa : ∀ c ∈ r.tail, c ≠ a ∧ c ≠ hd r := fun c hc => by
    cases r with
    | nil => simp at hc
    | cons b r' => exact ⟨fun e => har.1 (by rw [← e]; exact List.mem_cons_of_mem _ hc), fun e => (List.nodup_cons.1 har.2).1 (by rw [← show c = b from e]; exact hc)⟩
  have hww : ∀ c, c ≠ a ∧ c ≠ hd r → c ≠ meldN Y S a (hd r) := fun c hc e => by
    rcases mo.one with e2 | e2
    · exact hc.1 (e.trans e2)
    · exact hc.2 (e.trans e2)
  have hea : ex ≠ a := fun e => h.exo.2.1 (by rw [e]; exact List.mem_cons_self)
  have heb : ex ≠ -1 → ex ≠ hd r := fun e e2 => by
    by_cases e3 : r = []
    · exact e (by rw [e2, e3]; rfl)
    · exact h.exo.2.1 (by rw [e2]; exact List.mem_cons_of_mem _ (hd_mem e3))
  have hexw : ex ≠ meldN Y S a (hd r) := fun e => hww ex ⟨hea, heb (by rw [e]; exact hwn)⟩ e
  have hnx : ∀ c, c ≠ a ∧ c ≠ hd r → (atV (putS' (meldS Y S a (hd r)) (meldN Y S a (hd r)) pairs) c).next = (atV S c).next := fun c hc => by
    rw [hat, if_neg (hww c hc)]
    exact mo.next c hc.1 hc.2
  have hv : ∀ c, (atV (putS' (meldS Y S a (hd r)) (meldN Y S a (hd r)) pairs) c).v = (atV S c).v := fun c => by
    rw [hat]
    split
    · next e => rw [e]; exact mo.v _
    · exact mo.v c
  refine ⟨⟨ch_hd hcl, han, hrest⟩, ⟨ta.1, fun e => (hb.resolve_left e).1⟩, K', ⟨mo.fam.put mo.even tw pairs, even_put mo.even _ _, by rw [put_I, meld_I]; exact h.i, fun c => ?_, fun c => ?_, ?_, ?_, fun _ => hw, ?_, ?_, ⟨fun e => ?_, fun e => h.exo.2.1 (List.mem_cons_of_mem _ (List.mem_of_mem_tail e)), h.exo.2.2⟩, fun c => ?_, ?_⟩⟩
  · rw [G_put, mo.g, h.g]
  · rw [hv, h.v]
  · exact ch_same hch2 (fun c hc => hnx c (hTa c hc))
  · refine ⟨rfl, ?_⟩
    rw [hat, if_pos rfl]
    exact ch_same h.chP (fun c hc => hnx c (hPa c hc))
  · rw [List.cons_append]
    refine List.nodup_cons.2 ⟨fun e => ?_, List.nodup_append.2 ⟨hnod.1, ?_, fun x hx y hy => ?_⟩⟩
    · rcases List.mem_append.1 e with e | e
      · exact hww _ (hPa _ e) rfl
      · exact hww _ (hTa _ e) rfl
    · exact har.2.sublist (List.tail_sublist r)
    · exact hnod.2.2 x hx y (List.mem_cons_of_mem _ (List.mem_of_mem_tail hy))
  · rw [hw]
    exact fun e => by
      rcases List.mem_cons.1 e with e | e
      · exact hwn e.symm
      · exact h.notN.2 _ e rfl
  · rcases List.mem_cons.1 e with e | e
    · exact hexw e
    · exact h.exo.1 e
  · rw [top_put, mo.tops, h.tops, hw]
    constructor
    · rintro ⟨h1, h2⟩
      rcases h2 with h2 | h2
      · exact Or.inr (Or.inl (by rw [h2]; exact List.mem_cons_self))
      · rcases h1 with h1 | h1 | h1 | h1
        · exact absurd rfl h1.2
        · exact Or.inr (Or.inl (List.mem_cons_of_mem _ h1))
        · rcases List.mem_cons.1 h1 with h1 | h1
          · exact absurd h1 h2.1
          · cases r with
            | nil => simp at h1
            | cons b r' =>
              rcases List.mem_cons.1 h1 with h1 | h1
              · exact absurd h1 h2.2
              · exact Or.inr (Or.inr (Or.inl h1))
        · exact Or.inr (Or.inr (Or.inr h1))
    · rintro (h1 | h1 | h1 | h1)
      · exact absurd rfl h1.2
      · rcases List.mem_cons.1 h1 with h1 | h1
        · subst h1
          have := (h.tops _).1 tw0
          rw [hw] at this
          exact ⟨this, Or.inl rfl⟩
        · exact ⟨Or.inr (Or.inl h1), Or.inr (hPa c h1)⟩
      · exact ⟨Or.inr (Or.inr (Or.inl (List.mem_cons_of_mem _ (List.mem_of_mem_tail h1)))), Or.inr (hTa c h1)⟩
      · exact ⟨Or.inr (Or.inr (Or.inr h1)), Or.inr ⟨by rw [h1.1]; exact hea, by rw [h1.1]; exact heb h1.2⟩⟩
  · have hcnt := h.cnt
    rw [hw] at hcnt ⊢
    have hm : meldL a (hd r) = if hd r = -1 then 0 else 1 := by unfold meldL; rw [if_neg han]
    rw [hm]
    cases r with
    | nil => simp [hd_nil] at hcnt ⊢; omega
    | cons b r' =>
      have : b ≠ -1 := hne b (by simp)
      simp [hd_cons, this] at hcnt ⊢
      omega
theorem PairP.two {a : Int} {r : List Int} (h : PairP Y S0 S ex (-1) pairs whole [] (a :: r) K q n) (hi : ∀ x y, G S0 x → G S0 y → (atV S0 x).v = (atV S0 y).v → x = y) :
    (pairs = a ∧ a ≠ -1 ∧ restN S pairs = hd r) ∧ (G S a ∧ (whole ≠ -1 → G S whole)) ∧
    ∃ K', PairP Y S0 (meldS Y S whole a) ex (-1) (hd r) (meldN Y S whole a) [] r K' q (n + (meldL whole a).toNat) := by
  have hne := h.notN.2
  have ta : Top S K a := (h.tops a).2 (Or.inr (Or.inl List.mem_cons_self))
  have han : a ≠ -1 := top_neg ta
  have hrest : restN S pairs = hd r := ch_hd (ch_rest h.chP hne)
  have hb : whole = -1 ∨ Top S K whole := by
    by_cases e : whole = -1
    · exact Or.inl e
    · exact Or.inr ((h.tops _).2 (Or.inl ⟨rfl, e⟩))
  have hnod := h.nod
  rw [List.append_nil] at hnod
  have har := List.nodup_cons.1 hnod
  have hwa : whole ≠ a := fun e => h.off (by rw [e]; exact List.mem_cons_self)
  have hi' : ∀ x y, G S x → G S y → (atV S x).v = (atV S y).v → x = y := fun x y hx hy e => hi x y ((h.g x).1 hx) ((h.g y).1 hy) (by rw [← h.v, ← h.v]; exact e)
  obtain ⟨K', mo⟩ := h.fam.meld h.even hi' hb (Or.inr ta) (fun e => absurd e hwa)
  have hwn : meldN Y S whole a ≠ -1 := fun e => han (mo.none.1 e).2
  have hra : ∀ c ∈ r, c ≠ whole ∧ c ≠ a := fun c hc => ⟨fun e => h.off (by rw [← e]; exact List.mem_cons_of_mem _ hc), fun e => har.1 (by rw [← e]; exact hc)⟩
  have hch : Ch S (hd r) r := by
    have := ch_rest h.chP hne
    rw [hrest] at this
    exact this
  have htw : Top S K (meldN Y S whole a) := by
    rcases mo.one with e | e
    · rw [e]; exact hb.resolve_left (fun e2 => hwn (e.trans e2))
    · rw [e]; exact ta
  refine ⟨⟨ch_hd h.chP, han, hrest⟩, ⟨ta.1, fun e => (hb.resolve_left e).1⟩, K', ⟨mo.fam, mo.even, by rw [meld_I]; exact h.i, fun c => ?_, fun c => ?_, rfl, ?_, fun e => absurd rfl e, ?_, ?_, ⟨fun e => h.exo.1 (List.mem_cons_of_mem _ e), fun e => by simp at e, fun e e2 => ?_⟩, fun c => ?_, ?_⟩⟩
  · rw [mo.g, h.g]
  · rw [mo.v, h.v]
  · exact ch_same hch (fun c hc => mo.next c (hra c hc).1 (hra c hc).2)
  · rw [List.append_nil]; exact har.2
  · intro e
    rcases mo.one with e2 | e2
    · exact (hra _ e).1 e2
    · exact (hra _ e).2 e2
  · rcases mo.one with e3 | e3
    · exact h.exo.2.2 e (e2.trans e3)
    · exact h.exo.1 (by rw [e2, e3]; exact List.mem_cons_self)
  · rw [mo.tops, h.tops]
    constructor
    · rintro ⟨h1, h2⟩
      rcases h2 with h2 | h2
      · exact Or.inl ⟨h2, hwn⟩
      · rcases h1 with h1 | h1 | h1 | h1
        · exact absurd h1.1 h2.1
        · rcases List.mem_cons.1 h1 with h1 | h1
          · exact absurd h1 h2.2
          · exact Or.inr (Or.inl h1)
        · simp at h1
        · exact Or.inr (Or.inr (Or.inr h1))
    · rintro (h1 | h1 | h1 | h1)
      · rw [h1.1]
        exact ⟨(h.tops _).1 htw, Or.inl rfl⟩
      · exact ⟨Or.inr (Or.inl (List.mem_cons_of_mem _ h1)), Or.inr (hra c h1)⟩
      · simp at h1
      · refine ⟨Or.inr (Or.inr (Or.inr h1)), Or.inr ⟨?_, ?_⟩⟩
        · rw [h1.1]; exact h.exo.2.2 h1.2
        · rw [h1.1]; exact fun e => h.exo.1 (by rw [e]; exact List.mem_cons_self)
  · have hcnt := h.cnt
    rw [if_neg hwn]
    unfold meldL
    by_cases e : whole = -1
    · rw [if_pos e] at hcnt ⊢
      simp at hcnt ⊢
      omega
    · rw [if_neg e, if_neg han]
      rw [if_neg e] at hcnt
      simp at hcnt ⊢
      omega
end
end HpPure
end Go.Proofs.Ytndljbkjcgfdcaa
