/- Families: what cutting off, taking away, planting and putting make of them, and who hangs below none then. Plain facts: no function of the program is named. -/
import Derived.Test.YtndljbkjcgfdcaaHpFam
namespace Go.Proofs.Ytndljbkjcgfdcaa
namespace HpPure
open NdPure
section
variable {Y : List Int} {S : St} {K : Int → List Int}
theorem top_hang {t a : Int} {c : Int} : Top (hangS S t a) (hangK K t a) c ↔ Top S K c ∧ c ≠ t := by
  unfold Top
  rw [G_hang]
  constructor
  · rintro ⟨h1, h2⟩
    exact ⟨⟨h1, fun p e => h2 p (hangK_mem.2 (Or.inr e))⟩, fun e => h2 a (hangK_mem.2 (Or.inl ⟨rfl, e⟩))⟩
  · rintro ⟨⟨h1, h2⟩, h3⟩
    refine ⟨h1, fun p e => ?_⟩
    rcases hangK_mem.1 e with ⟨-, e⟩ | e
    · exact h3 e
    · exact h2 p e
/-- The last one of a list, or what is ahead of it. -/
def lastOr (p : Int) : List Int → Int
  | [] => p
  | c :: r => lastOr c r
theorem lastOr_mem {p : Int} : ∀ {l : List Int}, l ≠ [] → lastOr p l ∈ l
  | [], h => absurd rfl h
  | [c], _ => List.mem_cons_self
  | c :: d :: r, _ => List.mem_cons_of_mem c (lastOr_mem (p := c) (l := d :: r) (by simp))
theorem lk_mid : ∀ {l1 : List Int} {pv t : Int} {l2 : List Int}, Lk S pv (l1 ++ t :: l2) → (atV S t).back = lastOr pv l1 ∧ (atV S t).next = hd l2
  | [], _, _, _, h => ⟨h.1, h.2.1⟩
  | _ :: r, _, _, _, h => lk_mid (l1 := r) h.2.2
/-- What is left of a list is linked, where just the neighbours tell one another. -/
theorem lk_out {S' : St} {t : Int} {l2 : List Int} : ∀ {l1 : List Int} {pv : Int}, Lk S pv (l1 ++ t :: l2) → (l1 ++ t :: l2).Nodup →
    (∀ c ∈ l1 ++ l2, (atV S' c).back = if l2 ≠ [] ∧ c = hd l2 then lastOr pv l1 else (atV S c).back) → (∀ c ∈ l1 ++ l2, (atV S' c).next = if l1 ≠ [] ∧ c = lastOr pv l1 then hd l2 else (atV S c).next) → Lk S' pv (l1 ++ l2)
  | [], pv, h, hn, hb, hx => by
    cases l2 with
    | nil => trivial
    | cons n r =>
      have hn' := (List.nodup_cons.1 hn).2
      refine ⟨by rw [hb n List.mem_cons_self, if_pos ⟨by simp, rfl⟩]; rfl, by rw [hx n List.mem_cons_self, if_neg (fun e => e.1 rfl)]; exact h.2.2.2.1, ?_⟩
      refine lk_same h.2.2.2.2 fun c hc => ?_
      have hcn : c ≠ n := fun e => (List.nodup_cons.1 hn').1 (by rw [← e]; exact hc)
      exact ⟨by rw [hb c (List.mem_cons_of_mem _ hc), if_neg (fun e => hcn e.2)], by rw [hx c (List.mem_cons_of_mem _ hc), if_neg (fun e => e.1 rfl)]⟩
  | [s], pv, h, hn, hb, hx => by
    have h1 := List.nodup_cons.1 hn
    have h2 := List.nodup_cons.1 h1.2
    have hs2 : s ∉ l2 := fun e => h1.1 (List.mem_cons_of_mem _ e)
    refine ⟨?_, by rw [hx s List.mem_cons_self, if_pos ⟨by simp, rfl⟩]; rfl, ?_⟩
    · rw [hb s List.mem_cons_self]
      rw [if_neg (fun e => hs2 (by rw [e.2]; exact hd_mem e.1))]
      exact h.1
    · cases l2 with
      | nil => trivial
      | cons n r =>
        have hns : n ≠ s := fun e => hs2 (by rw [← e]; exact List.mem_cons_self)
        refine ⟨by rw [hb n (by simp), if_pos ⟨by simp, rfl⟩]; rfl, ?_, ?_⟩
        · rw [hx n (by simp), if_neg (fun e => hns e.2)]
          exact h.2.2.2.2.2.1
        · refine lk_same h.2.2.2.2.2.2 fun c hc => ?_
          have hcn : c ≠ n := fun e => (List.nodup_cons.1 h2.2).1 (by rw [← e]; exact hc)
          have hcs : c ≠ s := fun e => hs2 (by rw [← e]; exact List.mem_cons_of_mem _ hc)
          exact ⟨by rw [hb c (by simp [hc]), if_neg (fun e => hcn e.2)], by rw [hx c (by simp [hc]), if_neg (fun e => hcs e.2)]⟩
  | a :: b :: l1, pv, h, hn, hb, hx => by
    have h1 := List.nodup_cons.1 hn
    have hlm : lastOr a (b :: l1) ∈ b :: l1 := lastOr_mem (by simp)
    refine ⟨?_, ?_, lk_out (l1 := b :: l1) (pv := a) h.2.2 h1.2 (fun c hc => ?_) (fun c hc => ?_)⟩
    · rw [hb a List.mem_cons_self, if_neg (fun e => h1.1 (by rw [e.2]; exact List.mem_append_right _ (List.mem_cons_of_mem _ (hd_mem e.1))))]
      exact h.1
    · rw [hx a List.mem_cons_self, if_neg (fun e => h1.1 (by have := e.2; rw [show lastOr pv (a :: b :: l1) = lastOr a (b :: l1) from rfl] at this; rw [this]; exact List.mem_append_left _ hlm))]
      exact h.2.1
    · have := hb c (List.mem_cons_of_mem _ hc)
      exact this
    · have := hx c (List.mem_cons_of_mem _ hc)
      rw [this]
      simp [lastOr]
theorem G_cut {t n : Int} : G (cutS S t) n ↔ G S n := by unfold cutS; rw [G_back, G_set]
theorem cut_I (S : St) (t : Int) : (cutS S t).I = S.I := by unfold cutS setBackS; rw [set_I, set_I]
theorem put_I (S : St) (t l : Int) : (putS' S t l).I = S.I := set_I _ _ _
theorem even_cut (h : Even S) (t : Int) : Even (cutS S t) := even_back (even_set h _ _) _ _
/-- What is ahead of a cell that is cut off is given, and begins its list with it just if it is the one that the list hangs below. -/
theorem Fam.back (h : Fam Y S K) {p t : Int} {l1 l2 : List Int} (hk : K p = l1 ++ t :: l2) : G S (lastOr p l1) ∧ ((atV S (lastOr p l1)).below = t ↔ l1 = []) ∧ (l2 ≠ [] → G S (hd l2) ∧ hd l2 ≠ lastOr p l1) := by
  have hm : t ∈ K p := by rw [hk]; simp
  have hp := (h.kid p t hm).1
  have ht := (h.kid p t hm).2
  have hn := h.nodup p
  rw [hk] at hn
  by_cases e : l1 = []
  · subst e
    refine ⟨hp, ⟨fun _ => rfl, fun _ => ?_⟩, fun e2 => ⟨?_, fun e3 => ?_⟩⟩
    · show (atV S p).below = t
      rw [h.below p hp, hk]; rfl
    · exact (h.kid p (hd l2) (by rw [hk]; exact List.mem_cons_of_mem _ (hd_mem e2))).2
    · have e3 : hd l2 = p := e3
      exact h.self p (by rw [hk, ← e3]; exact List.mem_cons_of_mem _ (hd_mem e2))
  · have hb : lastOr p l1 ∈ l1 := lastOr_mem e
    have hbk : lastOr p l1 ∈ K p := by rw [hk]; exact List.mem_append_left _ hb
    have hg := (h.kid p _ hbk).2
    refine ⟨hg, ⟨fun e2 => ?_, fun e2 => absurd e2 e⟩, fun e2 => ⟨?_, fun e3 => ?_⟩⟩
    · rw [h.below _ hg] at e2
      have hne : K (lastOr p l1) ≠ [] := fun e3 => by rw [e3, hd_nil] at e2; exact not_G_neg (by rw [e2]; exact ht)
      have := hd_mem hne
      rw [e2] at this
      have e4 := h.one _ _ _ this hm
      rw [e4] at hbk
      exact absurd hbk (h.self p)
    · exact (h.kid p (hd l2) (by rw [hk]; exact List.mem_append_right _ (List.mem_cons_of_mem _ (hd_mem e2)))).2
    · have h3 := (List.nodup_append.1 hn).2.2 _ hb (hd l2) (List.mem_cons_of_mem _ (hd_mem e2))
      exact h3 e3.symm
theorem cut_fields (h : Fam Y S K) (he : Even S) {p t : Int} {l1 l2 : List Int} (hk : K p = l1 ++ t :: l2) (n : Int) :
    (atV (cutS S t) n).v = (atV S n).v ∧ (atV (cutS S t) n).below = (if l1 = [] ∧ n = p then hd l2 else (atV S n).below) ∧ (atV (cutS S t) n).next = (if l1 ≠ [] ∧ n = lastOr p l1 then hd l2 else (atV S n).next) ∧
      (atV (cutS S t) n).back = (if l2 ≠ [] ∧ n = hd l2 then lastOr p l1 else (atV S n).back) := by
  obtain ⟨hg, hb, hx⟩ := h.back hk
  have hl := h.lk p
  rw [hk] at hl
  obtain ⟨e1, e2⟩ := lk_mid hl
  have hmid : ∀ m, atV (setS S (lastOr p l1) (backN S t)) m = if m = lastOr p l1 then backN S t else atV S m := at_set he hg _
  have hbn : backN S t = if l1 = [] then ⟨(atV S (lastOr p l1)).v, hd l2, (atV S (lastOr p l1)).next, (atV S (lastOr p l1)).back⟩ else ⟨(atV S (lastOr p l1)).v, (atV S (lastOr p l1)).below, hd l2, (atV S (lastOr p l1)).back⟩ := by
    unfold backN
    rw [e1, e2]
    by_cases e : l1 = []
    · rw [if_pos (hb.2 e), if_pos e]
    · rw [if_neg (fun e3 => e (hb.1 e3)), if_neg e]
  have hfin : atV (cutS S t) n = if n = hd l2 ∧ G S (hd l2) then ⟨(atV (setS S (lastOr p l1) (backN S t)) n).v, (atV (setS S (lastOr p l1) (backN S t)) n).below, (atV (setS S (lastOr p l1) (backN S t)) n).next, lastOr p l1⟩ else atV (setS S (lastOr p l1) (backN S t)) n := by
    unfold cutS
    rw [e1, e2, at_back (even_set he _ _)]
    simp only [G_set]
  have hG : (n = hd l2 ∧ G S (hd l2)) ↔ (l2 ≠ [] ∧ n = hd l2) := by
    constructor
    · rintro ⟨h1, h2⟩
      exact ⟨fun e => by rw [e, hd_nil] at h2; exact not_G_neg h2, h1⟩
    · rintro ⟨h1, h2⟩
      exact ⟨h2, (hx h1).1⟩
  have hv : (atV (setS S (lastOr p l1) (backN S t)) n).v = (atV S n).v ∧ (atV (setS S (lastOr p l1) (backN S t)) n).below = (if l1 = [] ∧ n = p then hd l2 else (atV S n).below) ∧
      (atV (setS S (lastOr p l1) (backN S t)) n).next = (if l1 ≠ [] ∧ n = lastOr p l1 then hd l2 else (atV S n).next) ∧ (atV (setS S (lastOr p l1) (backN S t)) n).back = (atV S n).back := by
    rw [hmid]
    by_cases e : n = lastOr p l1
    · rw [if_pos e, hbn, ← e]
      by_cases e3 : l1 = []
      · subst e3
        have e4 : n = p := e
        simp [e4]
      · simp [e3, e]
    · rw [if_neg e]
      refine ⟨rfl, ?_, ?_, rfl⟩
      · rw [if_neg (fun e3 => e (by rw [e3.1]; exact e3.2))]
      · rw [if_neg (fun e3 => e e3.2)]
  rw [hfin]
  by_cases e : n = hd l2 ∧ G S (hd l2)
  · rw [if_pos e]
    refine ⟨hv.1, hv.2.1, hv.2.2.1, ?_⟩
    rw [if_pos (hG.1 e)]
  · rw [if_neg e]
    refine ⟨hv.1, hv.2.1, hv.2.2.1, ?_⟩
    rw [if_neg (fun e2 => e (hG.2 e2))]
    exact hv.2.2.2
/-- One cell is off all lists. -/
def cutK (K : Int → List Int) (t : Int) : Int → List Int := fun p => (K p).filter (fun c => c != t)
theorem cutK_mem {t p c : Int} : c ∈ cutK K t p ↔ c ∈ K p ∧ c ≠ t := by unfold cutK; simp
theorem filter_off {l : List Int} {t : Int} (h : t ∉ l) : l.filter (fun c => c != t) = l := List.filter_eq_self.2 (fun c hc => by simp; exact fun e => h (by rw [← e]; exact hc))
theorem cutK_at {p t : Int} {l1 l2 : List Int} (h : (l1 ++ t :: l2).Nodup) (hk : K p = l1 ++ t :: l2) : cutK K t p = l1 ++ l2 := by
  have h1 := List.nodup_append.1 h
  have h2 := List.nodup_cons.1 h1.2.1
  unfold cutK
  rw [hk, List.filter_append, List.filter_cons_of_neg (by simp), filter_off (fun e => h1.2.2 _ e t List.mem_cons_self rfl), filter_off h2.1]
theorem cutK_off {p t : Int} (h : t ∉ K p) : cutK K t p = K p := filter_off h
theorem Fam.cut (h : Fam Y S K) (he : Even S) {p t : Int} (ht : t ∈ K p) : Fam Y (cutS S t) (cutK K t) := by
  obtain ⟨l1, l2, hk⟩ := List.append_of_mem ht
  have hf := cut_fields h he hk
  have hn := h.nodup p
  rw [hk] at hn
  have hoff : ∀ q, q ≠ p → t ∉ K q := fun q hq e => hq (h.one q p t e ht)
  refine ⟨fun q c hc => ?_, fun q r c hq hr => ?_, fun q => ?_, fun q c hc => ?_, fun q hq => ?_, fun q => ?_⟩
  · rw [G_cut, G_cut]
    exact h.kid q c (cutK_mem.1 hc).1
  · exact h.one q r c (cutK_mem.1 hq).1 (cutK_mem.1 hr).1
  · exact (h.nodup q).filter _
  · rw [(hf q).1, (hf c).1]
    exact h.ahead q c (cutK_mem.1 hc).1
  · rw [G_cut] at hq
    rw [(hf q).2.1]
    by_cases e : q = p
    · subst e
      rw [cutK_at hn hk]
      by_cases e2 : l1 = []
      · subst e2; rw [if_pos ⟨rfl, rfl⟩]; rfl
      · rw [if_neg (fun e3 => e2 e3.1), h.below q hq, hk]
        cases l1 with
        | nil => exact absurd rfl e2
        | cons c r => rfl
    · rw [if_neg (fun e3 => e e3.2), cutK_off (hoff q e)]
      exact h.below q hq
  · by_cases e : q = p
    · subst e
      rw [cutK_at hn hk]
      have hl := h.lk q
      rw [hk] at hl
      exact lk_out hl hn (fun c _ => (hf c).2.2.2) (fun c _ => (hf c).2.2.1)
    · rw [cutK_off (hoff q e)]
      refine lk_same (h.lk q) fun c hc => ⟨?_, ?_⟩
      · rw [(hf c).2.2.2, if_neg (fun e2 => e (h.one q p c hc (by rw [hk, e2.2]; exact List.mem_append_right _ (List.mem_cons_of_mem _ (hd_mem e2.1)))))]
      · rw [(hf c).2.2.1, if_neg (fun e2 => e (h.one q p c hc (by rw [hk, e2.2]; exact List.mem_append_left _ (lastOr_mem e2.1))))]
theorem cut_v (h : Fam Y S K) (he : Even S) {p t : Int} (ht : t ∈ K p) (n : Int) : (atV (cutS S t) n).v = (atV S n).v := by
  obtain ⟨l1, l2, hk⟩ := List.append_of_mem ht
  exact (cut_fields h he hk n).1
theorem top_cut (h : Fam Y S K) {p t : Int} (ht : t ∈ K p) {c : Int} : Top (cutS S t) (cutK K t) c ↔ Top S K c ∨ c = t := by
  unfold Top
  rw [G_cut]
  constructor
  · rintro ⟨h1, h2⟩
    by_cases e : c = t
    · exact Or.inr e
    · exact Or.inl ⟨h1, fun q hq => h2 q (cutK_mem.2 ⟨hq, e⟩)⟩
  · rintro (⟨h1, h2⟩ | rfl)
    · exact ⟨h1, fun q hq => h2 q (cutK_mem.1 hq).1⟩
    · exact ⟨(h.kid p c ht).2, fun q hq => (cutK_mem.1 hq).2 rfl⟩
/-- What a cell that is freed leaves. -/
theorem G_free {n c : Int} (hg : G S c) : G (freeS S c) n ↔ G S n ∧ n ≠ c := by
  obtain ⟨k, rfl, hk, hy⟩ := has_yes hg
  have hs : freeS S (k : Int) = dropS S k := by unfold freeS; rw [if_pos hg, Int.toNat_natCast]
  unfold G
  rw [hs]
  constructor
  · intro h
    obtain ⟨m, rfl, hm, hy2⟩ := has_yes h
    have hml : m < S.I.length := by simpa [dropS] using hm
    by_cases e : m = k
    · subst e
      have : (S.I.set m false)[m]? = some true := hy2
      simp [hml] at this
    · refine ⟨?_, by omega⟩
      have h3 : (S.I.set k false)[m]? = some true := hy2
      rw [get_lay e] at h3
      rw [has_of hml]
      exact (List.getElem?_eq_some_iff.1 h3).2
  · rintro ⟨h, hne⟩
    obtain ⟨m, rfl, hm, hy2⟩ := has_yes h
    have hmk : m ≠ k := by omega
    have h3 : (S.I.set k false)[m]? = some true := by rw [get_lay hmk]; exact hy2
    have hml : m < (dropS S k).I.length := by simpa [dropS] using hm
    rw [has_of hml]
    exact (List.getElem?_eq_some_iff.1 h3).2
theorem at_free {n c : Int} (hg : G S c) (hn : n ≠ c) : atV (freeS S c) n = atV S n := by
  have h1 := G_free (S := S) (n := n) hg
  unfold atV
  have hX : (freeS S c).X = S.X := by unfold freeS; split <;> rfl
  rw [hX]
  by_cases e : G S n
  · rw [if_pos (h1.2 ⟨e, hn⟩), if_pos e]
  · rw [if_neg (fun e2 => e (h1.1 e2).1), if_neg e]
theorem even_free (h : Even S) (c : Int) : Even (freeS S c) := by
  unfold freeS
  split
  · simpa [Even, dropS] using h
  · exact h
/-- Below one cell nothing hangs any more. -/
def freeK (K : Int → List Int) (t : Int) : Int → List Int := fun p => if p = t then [] else K p
theorem freeK_mem {t p c : Int} : c ∈ freeK K t p ↔ p ≠ t ∧ c ∈ K p := by
  unfold freeK
  by_cases e : p = t
  · rw [if_pos e]; simp [e]
  · rw [if_neg e]; simp [e]
theorem Fam.free (h : Fam Y S K) {t : Int} (ht : Top S K t) : Fam Y (freeS S t) (freeK K t) := by
  have hkt : ∀ q c, c ∈ K q → c ≠ t := fun q c hc e => ht.2 q (by rw [← e]; exact hc)
  refine ⟨fun q c hc => ?_, fun q r c hq hr => ?_, fun q => ?_, fun q c hc => ?_, fun q hq => ?_, fun q => ?_⟩
  · obtain ⟨h1, h2⟩ := freeK_mem.1 hc
    have := h.kid q c h2
    rw [G_free ht.1, G_free ht.1]
    exact ⟨⟨this.1, h1⟩, this.2, hkt q c h2⟩
  · exact h.one q r c (freeK_mem.1 hq).2 (freeK_mem.1 hr).2
  · unfold freeK
    split
    · exact List.nodup_nil
    · exact h.nodup q
  · obtain ⟨h1, h2⟩ := freeK_mem.1 hc
    rw [at_free ht.1 h1, at_free ht.1 (hkt q c h2)]
    exact h.ahead q c h2
  · rw [G_free ht.1] at hq
    rw [at_free ht.1 hq.2, h.below q hq.1]
    unfold freeK
    rw [if_neg hq.2]
  · unfold freeK
    split
    · trivial
    · exact lk_same (h.lk q) fun c hc => by rw [at_free ht.1 (hkt q c hc)]; exact ⟨rfl, rfl⟩
theorem top_free (h : Fam Y S K) {t : Int} (ht : Top S K t) {c : Int} : Top (freeS S t) (freeK K t) c ↔ (Top S K c ∧ c ≠ t) ∨ c ∈ K t := by
  unfold Top
  rw [G_free ht.1]
  constructor
  · rintro ⟨⟨h1, h2⟩, h3⟩
    by_cases e : c ∈ K t
    · exact Or.inr e
    · refine Or.inl ⟨⟨h1, fun q hq => ?_⟩, h2⟩
      by_cases e2 : q = t
      · subst e2; exact e hq
      · exact h3 q (freeK_mem.2 ⟨e2, hq⟩)
  · rintro (⟨⟨h1, h2⟩, h3⟩ | h1)
    · exact ⟨⟨h1, h3⟩, fun q hq => h2 q (freeK_mem.1 hq).2⟩
    · refine ⟨⟨(h.kid t c h1).2, fun e => ht.2 t (by rw [e] at h1; exact h1)⟩, fun q hq => ?_⟩
      obtain ⟨h2, h3⟩ := freeK_mem.1 hq
      exact h2 (h.one q t c h3 h1)
/-- What is put behind a top. -/
theorem G_put {t l n : Int} : G (putS' S t l) n ↔ G S n := G_set
theorem even_put (h : Even S) (t l : Int) : Even (putS' S t l) := even_set h _ _
theorem at_put (he : Even S) {t : Int} (ht : G S t) (l n : Int) : atV (putS' S t l) n = if n = t then ⟨(atV S t).v, (atV S t).below, l, (atV S t).back⟩ else atV S n := at_set he ht _ n
theorem Fam.put (h : Fam Y S K) (he : Even S) {t : Int} (ht : Top S K t) (l : Int) : Fam Y (putS' S t l) K := by
  have hat := at_put he ht.1 l
  have hkt : ∀ q c, c ∈ K q → c ≠ t := fun q c hc e => ht.2 q (by rw [← e]; exact hc)
  have hv : ∀ n, (atV (putS' S t l) n).v = (atV S n).v := fun n => by
    rw [hat]; split
    · next e => rw [e]
    · rfl
  refine ⟨fun q c hc => ?_, h.one, h.nodup, fun q c hc => ?_, fun q hq => ?_, fun q => ?_⟩
  · rw [G_put, G_put]; exact h.kid q c hc
  · rw [hv, hv]; exact h.ahead q c hc
  · rw [G_put] at hq
    rw [hat]
    split
    · next e => rw [← e]; exact h.below q hq
    · exact h.below q hq
  · exact lk_same (h.lk q) fun c hc => by rw [hat, if_neg (hkt q c hc)]; exact ⟨rfl, rfl⟩
theorem top_put {t l c : Int} : Top (putS' S t l) K c ↔ Top S K c := by unfold Top; rw [G_put]
end
end HpPure
end Go.Proofs.Ytndljbkjcgfdcaa
