/- Texts that the laws of this seat stand on, part 31. -/
import Derived.Test.YtbankocbncpepaaPk10
import Derived.Test.YtbankocbncpepaaPk1
import Derived.Test.YtbankocbncpepaaPk11
import Derived.WideShapes
import Derived.ChangeReads
import Derived.ChangeSame
/- Four lists of vertices that are gathered at once: those of one side, of another, what they share, what both have (layer 21). No program in sight. -/
namespace Go.Proofs.Ytbankocbncpepaa.SdPure
open EdPure NtPure CutPure
theorem oth_congr {l l' : List Int} : ∀ {k : Nat}, (∀ j : Nat, j < k → inS l j = inS l' j) → othL l k = othL l' k
  | 0, _ => rfl
  | k + 1, h => by
    unfold othL
    rw [oth_congr (k := k) (fun j hj => h j (by omega)), h k (by omega)]
theorem oth_rises (l : List Int) : ∀ k : Nat, (othL l k).Pairwise (· < ·)
  | 0 => List.Pairwise.nil
  | k + 1 => by
    unfold othL
    rw [List.pairwise_append]
    refine ⟨oth_rises l k, by split <;> simp, fun a ha b hb => ?_⟩
    have h := ((oth_mem l a k).1 ha).1.2
    split at hb
    · simp at hb
    · simp at hb; omega
/-- Numbers below k, rising, and how many the others are. -/
def Part (k : Nat) (l : List Int) : Prop := RightS k l ∧ l.length + (othL l k).length = k
theorem Part.nil : Part 0 [] := ⟨⟨by simp, List.Pairwise.nil⟩, rfl⟩
theorem inS_snoc (l : List Int) (k v : Int) : inS (l ++ [k]) v = (inS l v || decide (v = k)) := by
  unfold inS; simp
theorem Part.out {k : Nat} {l : List Int} (h : Part k l) {v : Int} (hv : (k : Int) ≤ v) : inS l v = false := by
  cases e : inS l v with
  | false => rfl
  | true => have := (h.1.1 v (inS_iff.1 e)).2; omega
theorem Part.yes {k : Nat} {l : List Int} (h : Part k l) : Part (k + 1) (l ++ [(k : Int)]) := by
  refine ⟨⟨fun v hv => ?_, ?_⟩, ?_⟩
  · simp at hv
    rcases hv with hv | rfl
    · have := h.1.1 v hv; omega
    · omega
  · rw [List.pairwise_append]
    refine ⟨h.1.2, by simp, fun a ha b hb => ?_⟩
    simp at hb
    have := (h.1.1 a ha).2
    omega
  · have hc : othL (l ++ [(k : Int)]) k = othL l k := oth_congr fun j hj => by
      have d : decide ((j : Int) = (k : Int)) = false := decide_eq_false (by omega)
      rw [inS_snoc, d, Bool.or_false]
    have e : othL (l ++ [(k : Int)]) (k + 1) = othL l k := by
      conv => lhs; unfold othL
      rw [if_pos (by rw [inS_snoc]; simp), List.append_nil, hc]
    rw [e, List.length_append]
    have := h.2
    simp
    omega
theorem Part.no {k : Nat} {l : List Int} (h : Part k l) : Part (k + 1) l := by
  refine ⟨⟨fun v hv => by have := h.1.1 v hv; omega, h.1.2⟩, ?_⟩
  have e : othL l (k + 1) = othL l k ++ [(k : Int)] := by
    conv => lhs; unfold othL
    rw [if_neg (by rw [h.out (Int.le_refl _)]; decide)]
  rw [e, List.length_append]
  have := h.2
  simp
  omega
/-- The other side is one where the side is one. -/
theorem Part.other {n : Nat} {l : List Int} (h : Part n l) : chkS n (othL l n) = chkS n l := by
  have hr : RightS n (othL l n) := ⟨fun v hv => ((oth_mem l v n).1 hv).1, oth_rises l n⟩
  unfold chkS
  rw [if_pos hr, if_pos h.1]
  have h2 := h.2
  have e1 : othL l n = [] ↔ (othL l n).length = 0 := List.length_eq_zero_iff.symm
  have e2 : l = [] ↔ l.length = 0 := List.length_eq_zero_iff.symm
  by_cases hc : l = [] ∨ (l.length : Int) = n
  · rw [if_pos hc, if_pos (by rw [e1]; rw [e2] at hc; omega)]
  · rw [if_neg hc, if_neg (by rw [e1]; rw [e2] at hc; omega)]
/-- The four lists, gathered up to k. -/
def Four (k : Nat) (a b s o : List Int) : Prop :=
  Part k a ∧ (a.length ≤ k ∧ b.length ≤ k ∧ s.length ≤ k ∧ o.length ≤ k) ∧ (∀ v, (k : Int) ≤ v → inS a v = false ∧ inS b v = false) ∧ ∀ v, inS s v = (inS a v && inS b v) ∧ inS o v = (inS a v || inS b v)
theorem Four.nil : Four 0 [] [] [] [] := ⟨Part.nil, by simp, fun v _ => ⟨rfl, rfl⟩, fun v => ⟨rfl, rfl⟩⟩
theorem Four.step {k : Nat} {a b s o : List Int} (h : Four k a b s o) (p q : Bool) :
    Four (k + 1) (if p = true then a ++ [(k : Int)] else a) (if q = true then b ++ [(k : Int)] else b) (if (p && q) = true then s ++ [(k : Int)] else s) (if (p || q) = true then o ++ [(k : Int)] else o) := by
  obtain ⟨h1, ⟨l1, l2, l3, l4⟩, h3, h4⟩ := h
  refine ⟨?_, ?_, ?_, ?_⟩
  · cases p
    · exact h1.no
    · exact h1.yes
  · cases p <;> cases q <;> simp <;> omega
  · intro v hv
    obtain ⟨x1, x2⟩ := h3 v (by omega)
    have d : decide (v = (k : Int)) = false := decide_eq_false (by omega)
    cases p <;> cases q <;> simp [inS_snoc, x1, x2, d] <;> omega
  · intro v
    obtain ⟨y1, y2⟩ := h4 v
    by_cases hv : v = (k : Int)
    · obtain ⟨x1, x2⟩ := h3 v (by omega)
      subst hv
      rw [x1, x2] at y1 y2
      cases p <;> cases q <;> simp [inS_snoc, x1, x2, y1, y2]
    · have d : decide (v = (k : Int)) = false := decide_eq_false hv
      cases p <;> cases q <;> simp [inS_snoc, y1, y2, hv]
/-- What the program tells of the four: no more together than both. -/
theorem Four.two {k : Nat} {a b s o : List Int} (h : Four k a b s o) {n : Int} {M : List Ed} (hM : NonNeg M) (ha : chkS n a = 0) (hb : chkS n b = 0) :
    (if chkS n s = 0 then cutW M (inS s) else 0) + (if chkS n o = 0 then cutW M (inS o) else 0) ≤ (if chkS n a = 0 then cutW M (inS a) else 0) + (if chkS n b = 0 then cutW M (inS b) else 0) := by
  rw [if_pos ha, if_pos hb]
  have e1 : inS s = fun v => inS a v && inS b v := funext fun v => (h.2.2.2 v).1
  have e2 : inS o = fun v => inS a v || inS b v := funext fun v => (h.2.2.2 v).2
  have h1 := cut_two hM (inS a) (inS b)
  rw [← e1, ← e2] at h1
  have h2 := cut_nonneg hM (inS s)
  have h3 := cut_nonneg hM (inS o)
  split <;> split <;> omega
theorem w_rng {M : List Ed} (hM : NonNeg M) (ha : allW M ≤ 2251799813685248) (n : Int) (l : List Int) : 0 ≤ (if chkS n l = 0 then cutW M (inS l) else 0) ∧ (if chkS n l = 0 then cutW M (inS l) else 0) ≤ 2251799813685248 := by
  have h1 := cut_nonneg hM (inS l)
  have h2 := cut_le_all hM (inS l)
  split <;> omega
end Go.Proofs.Ytbankocbncpepaa.SdPure
/- Four lists that are gathered by append at once, each in a block of its own. -/
namespace Go.Proofs.Ytbankocbncpepaa
open Go.RowKit Go.ChangeShapes
/-- No block of one is the other's. -/
def Apt (u v : Value) : Prop := ∀ k, u.ownBlock = some k → v.ownBlock ≠ some k
theorem Apt.symm {u v : Value} (h : Apt u v) : Apt v u := fun k e e2 => h k e2 e
theorem Apt.kept {u v : Value} (h : Apt u v) : v.ownBlock = none ∨ v.ownBlock ≠ u.ownBlock := by
  cases e : v.ownBlock with
  | none => exact Or.inl rfl
  | some k => exact Or.inr (fun e2 => h k e2.symm e)
theorem Apt.step {u v u' : Value} {W : World} {B n : Nat} {xs : List Value} {K : Nat} (h : Apt u v) (hv : W.ownsRow B 3 1 v n xs) (hK : W.heap.size ≤ K) (hat : u'.ownBlock = u.ownBlock ∨ u'.ownBlock = some K) : Apt u' v := by
  intro k e e2
  rcases hat with hat | hat
  · exact h k (hat ▸ e) e2
  · rw [hat] at e
    have := (hv.lt k e2).2
    simp at e
    omega
def GathFour (w0 : World) (v1 v2 v3 v4 : Value) (a b s o : List Int) (W : World) : Prop :=
  Below w0.heap.size w0 W ∧ (W.ownsRow w0.heap.size 3 1 v1 a.length (a.map encZ) ∧ W.ownsRow w0.heap.size 3 1 v2 b.length (b.map encZ) ∧ W.ownsRow w0.heap.size 3 1 v3 s.length (s.map encZ) ∧ W.ownsRow w0.heap.size 3 1 v4 o.length (o.map encZ)) ∧
    (Apt v1 v2 ∧ Apt v1 v3 ∧ Apt v1 v4) ∧ (Apt v2 v3 ∧ Apt v2 v4) ∧ Apt v3 v4
section
variable {w0 W W' : World} {v1 v2 v3 v4 v' : Value} {a b s o : List Int} {x : Int} {ob : Obj}
theorem GathFour.start (w : World) : GathFour w (.slice none 0 0) (.slice none 0 0) (.slice none 0 0) (.slice none 0 0) [] [] [] [] w :=
  have h := World.ownsRow_nil w w.heap.size 3 1
  have k : Apt (.slice none 0 0) (.slice none 0 0) := fun k e => by simp [Value.ownBlock] at e
  ⟨Below.refl _ _, ⟨h, h, h, h⟩, ⟨k, k, k⟩, ⟨k, k⟩, k⟩
theorem GathFour.on (h : GathFour w0 v1 v2 v3 v4 a b s o W) (hb : Below W.heap.size W W') : GathFour w0 v1 v2 v3 v4 a b s o W' :=
  ⟨h.1.trans (hb.mono h.1.size), ⟨owns_below h.2.1.1 hb, owns_below h.2.1.2.1 hb, owns_below h.2.1.2.2.1 hb, owns_below h.2.1.2.2.2 hb⟩, h.2.2⟩
theorem GathFour.sw12 (h : GathFour w0 v1 v2 v3 v4 a b s o W) : GathFour w0 v2 v1 v3 v4 b a s o W :=
  ⟨h.1, ⟨h.2.1.2.1, h.2.1.1, h.2.1.2.2.1, h.2.1.2.2.2⟩, ⟨h.2.2.1.1.symm, h.2.2.2.1.1, h.2.2.2.1.2⟩, ⟨h.2.2.1.2.1, h.2.2.1.2.2⟩, h.2.2.2.2⟩
theorem GathFour.sw13 (h : GathFour w0 v1 v2 v3 v4 a b s o W) : GathFour w0 v3 v2 v1 v4 s b a o W :=
  ⟨h.1, ⟨h.2.1.2.2.1, h.2.1.2.1, h.2.1.1, h.2.1.2.2.2⟩, ⟨h.2.2.2.1.1.symm, h.2.2.1.2.1.symm, h.2.2.2.2⟩, ⟨h.2.2.1.1.symm, h.2.2.2.1.2⟩, h.2.2.1.2.2⟩
theorem GathFour.sw14 (h : GathFour w0 v1 v2 v3 v4 a b s o W) : GathFour w0 v4 v2 v3 v1 o b s a W :=
  ⟨h.1, ⟨h.2.1.2.2.2, h.2.1.2.1, h.2.1.2.2.1, h.2.1.1⟩, ⟨h.2.2.2.1.2.symm, h.2.2.2.2.symm, h.2.2.1.2.2.symm⟩, ⟨h.2.2.2.1.1, h.2.2.1.1.symm⟩, h.2.2.1.2.1.symm⟩
theorem GathFour.step1 (h : GathFour w0 v1 v2 v3 v4 a b s o W) (hown : W'.ownsRow w0.heap.size 3 1 v' (a.length + 1) (a.map encZ ++ [encZ x])) (hg : (W.alloc ob).grownBy W' v1.ownBlock) (hat : v'.ownBlock = v1.ownBlock ∨ v'.ownBlock = some (W.alloc ob).heap.size) :
    GathFour w0 v' v2 v3 v4 (a ++ [x]) b s o W' := by
  obtain ⟨hb, ⟨h1, h2, h3, h4⟩, ⟨p12, p13, p14⟩, pr⟩ := h
  have hK : W.heap.size ≤ (W.alloc ob).heap.size := by simp
  refine ⟨(hb.alloc hb.size ob).grown hg (hb.alloc hb.size ob).size fun j hj => (h1.lt j hj).1, ⟨by rw [List.length_append, List.map_append]; exact hown, (h2.alloc ob).kept hg p12.kept, (h3.alloc ob).kept hg p13.kept, (h4.alloc ob).kept hg p14.kept⟩, ⟨p12.step h2 hK hat, p13.step h3 hK hat, p14.step h4 hK hat⟩, pr⟩
theorem GathFour.step2 (h : GathFour w0 v1 v2 v3 v4 a b s o W) (hown : W'.ownsRow w0.heap.size 3 1 v' (b.length + 1) (b.map encZ ++ [encZ x])) (hg : (W.alloc ob).grownBy W' v2.ownBlock) (hat : v'.ownBlock = v2.ownBlock ∨ v'.ownBlock = some (W.alloc ob).heap.size) :
    GathFour w0 v1 v' v3 v4 a (b ++ [x]) s o W' := (h.sw12.step1 hown hg hat).sw12
theorem GathFour.step3 (h : GathFour w0 v1 v2 v3 v4 a b s o W) (hown : W'.ownsRow w0.heap.size 3 1 v' (s.length + 1) (s.map encZ ++ [encZ x])) (hg : (W.alloc ob).grownBy W' v3.ownBlock) (hat : v'.ownBlock = v3.ownBlock ∨ v'.ownBlock = some (W.alloc ob).heap.size) :
    GathFour w0 v1 v2 v' v4 a b (s ++ [x]) o W' := (h.sw13.step1 hown hg hat).sw13
theorem GathFour.step4 (h : GathFour w0 v1 v2 v3 v4 a b s o W) (hown : W'.ownsRow w0.heap.size 3 1 v' (o.length + 1) (o.map encZ ++ [encZ x])) (hg : (W.alloc ob).grownBy W' v4.ownBlock) (hat : v'.ownBlock = v4.ownBlock ∨ v'.ownBlock = some (W.alloc ob).heap.size) :
    GathFour w0 v1 v2 v3 v' a b s (o ++ [x]) W' := (h.sw14.step1 hown hg hat).sw14
end
end Go.Proofs.Ytbankocbncpepaa
/- An array of two numbers of 16 bits by value, as a statement's frame tells of it (as an element of Int × Int). -/
namespace Go.Proofs.Ytbankocbncpepaa
open Go.ChangeShapes Go.WideShapes Go.RowKit
theorem arr2U {α : Type} {cs : Array α} (h : cs.size = 2) : ∃ c0 c1, cs = #[c0, c1] := by
  obtain ⟨l⟩ := cs
  match l, h with
  | [c0, c1], _ => exact ⟨c0, c1, rfl⟩
set_option maxRecDepth 20000 in
theorem open_pairU {H : Type} {enc : TypeId × Value → H} {W : World} {base : Nat} {sp : Nat → Bool} {held : Bool} {r : Reach} {b0 : Nat} {v : Value} {d : DataW H} {ps : List MemPlace}
    (hv : Value.okWide Try.prog W r b0 55 v) (h : DataW.Trod enc Try.prog W base sp held 55 v d ps) :
    ∃ p : Int × Int, v = .agg #[.int .u16 p.1, .int .u16 p.2] ∧ ((0 ≤ p.1 ∧ p.1 ≤ 65535) ∧ 0 ≤ p.2 ∧ p.2 ≤ 65535) := by
  have hu := Try.underlying55
  have hC : Try.prog.cellsOf 55 = 2 := by kernel_rfl
  have hc : Try.prog.cellsOf 54 = 1 := by kernel_rfl
  simp only [Value.okWide, hu] at hv
  obtain ⟨cs, rfl, hsz, _⟩ := hv
  obtain ⟨c0, c1, rfl⟩ := arr2U (hsz.trans hC)
  obtain ⟨fuel, hf⟩ := h
  cases fuel with
  | zero => simp [DataW.trod] at hf
  | succ m =>
    rw [DataW.trod_step] at hf
    unfold DataW.trodStep at hf
    simp only [hu, Value.cells, hC, hc] at hf
    rw [if_pos (show [c0, c1].length = 2 from rfl), Option.map_eq_some_iff] at hf
    obtain ⟨ys, hy, -⟩ := hf
    rw [show List.range 2 = [0, 1] from rfl, List.mapM_cons, List.mapM_cons] at hy
    simp only [bind, Option.bind_eq_some_iff, pure, Option.some.injEq] at hy
    obtain ⟨y0, h0, ys1, ⟨y1, h1, -⟩, -⟩ := hy
    obtain ⟨n0, e0, -, w0⟩ := DataW.trod_int (t := 54) Try.underlying54 h0
    obtain ⟨n1, e1, -, w1⟩ := DataW.trod_int (t := 54) Try.underlying54 h1
    have e0' : c0 = .int .u16 n0 := by simpa using e0
    have e1' : c1 = .int .u16 n1 := by simpa using e1
    exact ⟨(n0, n1), by rw [e0', e1'], bounds_u16 w0, bounds_u16 w1⟩
end Go.Proofs.Ytbankocbncpepaa
