/- What was collected of a map that is gone over in whatever order. -/
import Derived.Test.YtbankocbncpepaaEdMap
namespace Go.Proofs.Ytbankocbncpepaa
open Go.RowKit Go.ChangeShapes Go.Maps EdPure NumPure
theorem filter_out {M : List Ed} {e : Ed} {p : Ed → Bool} (hn : M.Nodup) (he : e ∈ M) (hp : p e = false) : (M.filter fun x => p x || decide (x = e)).Perm (M.filter p ++ [e]) := by
  induction M with
  | nil => simp at he
  | cons y r ih =>
    obtain ⟨n1, n2⟩ := List.nodup_cons.1 hn
    by_cases hy : y = e
    · subst hy
      have : (r.filter fun x => p x || decide (x = y)) = r.filter p := List.filter_congr fun x hx => by
        have : ¬ x = y := fun e2 => n1 (e2 ▸ hx)
        simp [this]
      rw [List.filter_cons_of_pos (by simp), List.filter_cons_of_neg (by simp [hp]), this]
      exact (List.perm_append_singleton y _).symm
    · have he' : e ∈ r := (List.mem_cons.1 he).resolve_left (fun h => hy h.symm)
      have := ih n2 he'
      cases hpy : p y
      · rw [List.filter_cons_of_neg (by simp [hpy, hy]), List.filter_cons_of_neg (by simp [hpy])]
        exact this
      · rw [List.filter_cons_of_pos (by simp [hpy]), List.filter_cons_of_pos hpy]
        exact this.cons y
def Coll (M : List Ed) (left : Lit → Bool) (G : List Ed) : Prop := G.Perm (M.filter fun x => decide (x.2.2 ≠ 0) && !left (kP x.1 x.2.1))
theorem Coll.start {M : List Ed} {D : DataW Unit} (hM : GoodM M) (hD : MapIs M D) : Coll M (has D) [] := by
  unfold Coll
  have : (M.filter fun x => decide (x.2.2 ≠ 0) && !has D (kP x.1 x.2.1)) = [] := by
    rw [List.filter_eq_nil_iff]
    intro x hx
    obtain ⟨-, i1, i2, -⟩ := hM.2 x hx
    rw [hD.2.1 _ _ i1 i2, (mem_wOf hM.1 hx).2]
    simp
  rw [this]
theorem Coll.end {M : List Ed} {left : Lit → Bool} {G : List Ed} (h : Coll M left G) (hl : ∀ k, left k = false) : G.Perm (nonz M) := by
  unfold Coll at h
  unfold nonz
  refine h.trans (List.Perm.of_eq (List.filter_congr fun x _ => ?_))
  rw [hl]; simp
theorem key_is {M : List Ed} (hM : GoodM M) {a b : Int} (ia : In a) (ib : In b) {x : Ed} (hx : x ∈ M) : (kP x.1 x.2.1).sameKey (kP a b) = decide (x = (a, b, wOf M a b)) := by
  obtain ⟨-, i1, i2, -⟩ := hM.2 x hx
  by_cases h : x.1 = a ∧ x.2.1 = b
  · obtain ⟨h1, h2⟩ := h
    subst h1 h2
    rw [WideAt.sameKey_self (kP_key i1 i2), (mem_wOf hM.1 hx).1]
    simp
  · rw [sameKey_ne (kP_ne i1 i2 ia ib h)]
    have : ¬ x = (a, b, wOf M a b) := fun e => h ⟨by rw [e], by rw [e]⟩
    simp [this]
theorem nodup_good {M : List Ed} (hM : GoodM M) : M.Nodup := hM.1.imp (fun {a b} hab e => by subst e; unfold lt2 at hab; omega)
theorem Coll.zero {M : List Ed} {left : Lit → Bool} {G : List Ed} (h : Coll M left G) (hM : GoodM M) {a b : Int} (ia : In a) (ib : In b) (hc : wOf M a b = 0) : Coll M (fun z => left z && !z.sameKey (kP a b)) G := by
  unfold Coll at *
  refine h.trans (List.Perm.of_eq (List.filter_congr fun x hx => ?_))
  simp only
  rw [key_is hM ia ib hx]
  by_cases e : x = (a, b, wOf M a b)
  · have : x.2.2 = 0 := by rw [e]; exact hc
    simp [this]
  · simp [e]
theorem Coll.step {M : List Ed} {left : Lit → Bool} {G : List Ed} (h : Coll M left G) (hM : GoodM M) {a b : Int} (ia : In a) (ib : In b) (hh : hasM M a b = true) (hl : left (kP a b) = true) (hc : wOf M a b ≠ 0) :
    Coll M (fun z => left z && !z.sameKey (kP a b)) (G ++ [(a, b, wOf M a b)]) := by
  unfold Coll at *
  have hm := wOf_mem hh
  have := filter_out (p := fun x => decide (x.2.2 ≠ 0) && !left (kP x.1 x.2.1)) (nodup_good hM) hm (by simp [hl])
  refine ((h.append_right _).trans this.symm).trans (List.Perm.of_eq (List.filter_congr fun x hx => ?_))
  simp only
  rw [key_is hM ia ib hx]
  by_cases e : x = (a, b, wOf M a b)
  · simp [e, hc, hl]
  · simp [e]
end Go.Proofs.Ytbankocbncpepaa
