/- Texts that the laws of this seat stand on, part 23. -/
import Derived.Test.YtceejjgmepaonaaDoorPk22
import Derived.Test.YtceejjgmepaonaaDoorPk9
import Derived.Test.YtceejjgmepaonaaDoorPk12
/- The document's least cut (layer 22). -/
namespace Go.Proofs.YtceejjgmepaonaaDoor.Br
open Go.RowKit Go.ChangeShapes EdPure NtPure CutPure SdPure BrPure Cm Sd
def leastB (M : List Ed) (L : List (List Int)) : Option (Int × List Int) := L.foldl (stepB M) none
def wB : Option (Int × List Int) → Int
  | none => -1
  | some (b, _) => b
def sB : Option (Int × List Int) → List Int
  | none => []
  | some (_, s) => s
theorem leastB_take {M : List Ed} {L : List (List Int)} {k : Nat} (hk : k < L.length) : leastB M (L.take (k + 1)) = stepB M (leastB M (L.take k)) L[k] := by
  unfold leastB
  rw [List.take_succ_eq_append_getElem hk, List.foldl_append]
  rfl
theorem leastB_ok (M : List Ed) (L : List (List Int)) : OkB M (leastB M L) L := by
  have : ∀ k, k ≤ L.length → OkB M (leastB M (L.take k)) (L.take k) := by
    intro k
    induction k with
    | zero => intro _; exact rfl
    | succ k ih =>
      intro hk
      rw [leastB_take (by omega), List.take_succ_eq_append_getElem (by omega)]
      exact (ih (by omega)).step _
  have h := this L.length (Nat.le_refl _)
  rwa [List.take_length] at h
theorem leastB_pos {M : List Ed} (hn : NonNeg M) {L : List (List Int)} {b : Int} {s : List Int} (h : leastB M L = some (b, s)) : 0 ≤ b := by
  have h2 := leastB_ok M L
  rw [h] at h2
  rw [h2.2.1]
  exact cut_nonneg hn _
theorem step_none (M : List Ed) (x : List Int) : stepB M none x = some (cutW M (inS x), x) := rfl
theorem step_less {M : List Ed} {b : Int} {s x : List Int} (h : cutW M (inS x) < b) : stepB M (some (b, s)) x = some (cutW M (inS x), x) := if_pos h
theorem step_more {M : List Ed} {b : Int} {s x : List Int} (h : ¬ cutW M (inS x) < b) : stepB M (some (b, s)) x = some (b, s) := if_neg h
/-- A cut, or why there is none, as the document answers it. -/
def GotO (W : Int) (s : List Int) (E : Int) (w : World) (e : Ending) (w' : World) : Prop :=
  Below w.heap.size w w' ∧ ∃ q c, e = .returned (.agg #[.int .i64 W, .slice q s.length c, .int .i64 E]) ∧ ReadsL encZ w'.heap.size w' q s
/-- The best so far in its variable. -/
def BsAt (B0 : Nat) (W1 : World) (X : Nat) (best : Option (Int × List Int)) (wr : World) : Prop :=
  Below W1.heap.size W1 wr ∧ W1.heap.size ≤ X ∧ ∃ q c, TwoAt X wr (.int .i64 (wB best)) (.slice q (sB best).length c) ∧ ReadsL encZ W1.heap.size W1 q (sB best) ∧ ∀ z, q = some z → B0 ≤ z.block
theorem BsAt.keep {B0 : Nat} {W1 wr w' : World} {X : Nat} {best : Option (Int × List Int)} (h : BsAt B0 W1 X best wr) (hb : Below wr.heap.size wr w') : BsAt B0 W1 X best w' := by
  obtain ⟨h1, h2, q, c, h3, h4⟩ := h
  exact ⟨h1.trans (hb.mono h1.size), h2, q, c, h3.on hb h3.lt, h4⟩
theorem BsAt.store {B0 : Nat} {W1 wr : World} {X : Nat} {best : Option (Int × List Int)} (h : BsAt B0 W1 X best wr) {y : Int} {q : Option Addr} {l : List Int} {c : Nat} (hr : ReadsL encZ W1.heap.size W1 q l) (hq : ∀ z, q = some z → B0 ≤ z.block) :
    BsAt B0 W1 X (some (y, l)) ((wr.setCell ⟨X, 0, none⟩ (.int .i64 y)).setCell ⟨X, 1, none⟩ (.slice q l.length c)) := by
  obtain ⟨h1, h2, q0, c0, h3, h4⟩ := h
  exact ⟨(h1.setCell (p := ⟨X, 0, none⟩) h2 _).setCell (p := ⟨X, 1, none⟩) h2 _, h2, q, c, h3.set _ _, hr, hq⟩
theorem BsAt.new {B0 : Nat} {W1 : World} {T : TypeId} : BsAt B0 W1 W1.heap.size none (W1.alloc (.cells #[.int .i64 (-1), .slice none 0 0] T)) :=
  ⟨(Below.refl _ _).alloc (Nat.le_refl _) _, Nat.le_refl _, none, 0, TwoAt.new _ _ _ _, Or.inl rfl, fun z h => by cases h⟩
theorem three_res {R B : Nat} {w wr : World} {x y z : Value} (hb : Below B w wr) (ht : ThreeAt R wr x y z) (hR : B ≤ R) (x' y' z' : Value) :
    Below B w (((wr.setCell ⟨R, 0, none⟩ x').setCell ⟨R, 1, none⟩ y').setCell ⟨R, 2, none⟩ z') ∧ ThreeAt R (((wr.setCell ⟨R, 0, none⟩ x').setCell ⟨R, 1, none⟩ y').setCell ⟨R, 2, none⟩ z') x' y' z' :=
  ⟨((hb.setCell (p := ⟨R, 0, none⟩) hR x').setCell (p := ⟨R, 1, none⟩) hR y').setCell (p := ⟨R, 2, none⟩) hR z', ht.set x' y' z'⟩
/-- What lies in later blocks is still read. -/
theorem reads_beside {α : Type} {enc : α → Value} {R : Nat} {wr : World} {q : Option Addr} {l : List α} (hr : ReadsL enc wr.heap.size wr q l) (hq : ∀ z, q = some z → R < z.block) (x y z : Value) :
    ReadsL enc (((wr.setCell ⟨R, 0, none⟩ x).setCell ⟨R, 1, none⟩ y).setCell ⟨R, 2, none⟩ z).heap.size (((wr.setCell ⟨R, 0, none⟩ x).setCell ⟨R, 1, none⟩ y).setCell ⟨R, 2, none⟩ z) q l :=
  reads_past (M := R + 1) hr (fun z hz => hq z hz) (by simp) fun k hk _ => by
    rw [Below.heap_setCell _ _ _ _ (show k ≠ R by omega), Below.heap_setCell _ _ _ _ (show k ≠ R by omega), Below.heap_setCell _ _ _ _ (show k ≠ R by omega)]
theorem got_agg {W W' E E' : Int} {q : Option Addr} {n n' c : Nat} (h1 : W = W') (h2 : n = n') (h3 : E = E') : Ending.returned (.agg #[.int .i64 W, .slice q n c, .int .i64 E]) = .returned (.agg #[.int .i64 W', .slice q n' c, .int .i64 E']) := by rw [h1, h2, h3]
end Go.Proofs.YtceejjgmepaonaaDoor.Br
/- The least of all sides of a graph is least of all there are; what all least ones between two share is the least side (layer 22). No program in sight. -/
namespace Go.Proofs.YtceejjgmepaonaaDoor.BrPure
open EdPure NtPure CutPure SdPure
theorem all_some {n : Nat} (hn : 2 ≤ n) : allS n ≠ [] := by
  intro e
  have h := sideL_len n (2 ^ (n - 1) - 1)
  unfold allS at e
  rw [e] at h
  have := Nat.pow_le_pow_right (n := 2) (by omega) (show 1 ≤ n - 1 by omega)
  simp at h
  omega
/-- The least of all weighs no more than any side that parts any two vertices. -/
theorem least_all {n : Nat} {M : List Ed} (hM : GoodN n M) {w : Int} {x : List Int} (h : OkB M (some (w, x)) (allS n)) {S : Int → Bool} {s t : Int} (hs : 0 ≤ s ∧ s < n) (ht : 0 ≤ t ∧ t < n) (hp : S s ≠ S t) : w ≤ cutW M S := by
  have key : ∀ T : Int → Bool, T 0 = false → T s ≠ T t → w ≤ cutW M T := fun T h0 hT => by
    have hv : ∃ v : Int, (0 ≤ v ∧ v < n) ∧ T v = true := by
      cases e : T s with
      | true => exact ⟨s, hs, e⟩
      | false => refine ⟨t, ht, ?_⟩
                 cases e2 : T t with
                 | true => rfl
                 | false => rw [e, e2] at hT; exact absurd rfl hT
    obtain ⟨v, hv, hv2⟩ := hv
    obtain ⟨y, hy, hy2⟩ := all_there h0 hv hv2
    rw [← cut_same hM hy2]
    exact h.2.2 y hy
  cases e : S 0 with
  | false => exact key S e hp
  | true =>
    rw [← cut_not M S]
    refine key (fun v => !S v) (by simp [e]) (fun h2 => hp ?_)
    cases a : S s <;> cases b : S t <;> simp [a, b] at h2 ⊢
/-- One side of two, told by the vertex that it holds. -/
def orient (n : Nat) (s : Int) (x : List Int) : List Int := if inS x s = true then x else othL x n
def parted (s t : Int) (x : List Int) : Bool := inS x s != inS x t
theorem inS_oth (x : List Int) (n : Nat) {v : Int} (h : 0 ≤ v ∧ v < n) : inS (othL x n) v = !inS x v := by
  cases e : inS x v with
  | true =>
    cases e2 : inS (othL x n) v with
    | false => rfl
    | true => exact absurd (inS_iff.1 e) ((oth_mem x v n).1 (inS_iff.1 e2)).2
  | false => exact inS_iff.2 ((oth_mem x v n).2 ⟨h, fun hm => by rw [inS_iff.2 hm] at e; cases e⟩)
theorem orient_parts {n : Nat} {s t : Int} (hs : 0 ≤ s ∧ s < n) (ht : 0 ≤ t ∧ t < n) {x : List Int} (h : parted s t x = true) : Parts (inS (orient n s x)) s t := by
  unfold parted at h
  unfold orient Parts
  split
  · next e => rw [e] at h; refine ⟨e, ?_⟩
              cases e2 : inS x t with
              | false => rfl
              | true => rw [e2] at h; cases h
  · next e =>
    have e1 : inS x s = false := by simpa using e
    rw [e1] at h
    rw [inS_oth x n hs, inS_oth x n ht, e1]
    refine ⟨rfl, ?_⟩
    cases e2 : inS x t with
    | true => rfl
    | false => rw [e2] at h; cases h
/-- The least between two, and what all of them share. -/
def stepP (M : List Ed) (n : Nat) (s t : Int) (best : Option (Int × List Int)) (x : List Int) : Option (Int × List Int) :=
  if parted s t x = false then best
  else match best with
    | none => some (cutW M (inS (orient n s x)), orient n s x)
    | some (b, c) => if cutW M (inS (orient n s x)) < b then some (cutW M (inS (orient n s x)), orient n s x)
                     else if cutW M (inS (orient n s x)) = b then some (b, (orient n s x).filter (fun v => inS c v)) else some (b, c)
def OkP (M : List Ed) (n : Nat) (s t : Int) (best : Option (Int × List Int)) (L : List (List Int)) : Prop :=
  match best with
  | none => ∀ x ∈ L, parted s t x = false
  | some (w, c) => (∃ x ∈ L, parted s t x = true ∧ cutW M (inS (orient n s x)) = w) ∧ (∀ x ∈ L, parted s t x = true → w ≤ cutW M (inS (orient n s x))) ∧
      ∀ v, inS c v = true ↔ ∀ x ∈ L, parted s t x = true → cutW M (inS (orient n s x)) = w → inS (orient n s x) v = true
theorem OkP.step {M : List Ed} {n : Nat} {s t : Int} {best : Option (Int × List Int)} {L : List (List Int)} (h : OkP M n s t best L) (x : List Int) : OkP M n s t (stepP M n s t best x) (L ++ [x]) := by
  unfold stepP
  by_cases hp : parted s t x = false
  · rw [if_pos hp]
    cases best with
    | none =>
      intro y hy
      rw [List.mem_append] at hy
      rcases hy with hy | hy
      · exact h y hy
      · simp only [List.mem_singleton] at hy; rw [hy]; exact hp
    | some p =>
      obtain ⟨w, c⟩ := p
      obtain ⟨⟨y, h1, h2, h3⟩, h4, h5⟩ := h
      refine ⟨⟨y, by simp [h1], h2, h3⟩, fun z hz hzp => ?_, fun v => ?_⟩
      · rw [List.mem_append] at hz
        rcases hz with hz | hz
        · exact h4 z hz hzp
        · simp only [List.mem_singleton] at hz; rw [hz, hp] at hzp; cases hzp
      · rw [h5]
        constructor
        · intro hh z hz hzp hzw
          rw [List.mem_append] at hz
          rcases hz with hz | hz
          · exact hh z hz hzp hzw
          · simp only [List.mem_singleton] at hz; rw [hz, hp] at hzp; cases hzp
        · intro hh z hz
          exact hh z (by simp [hz])
  · rw [if_neg hp]
    have hp' : parted s t x = true := by simpa using hp
    cases best with
    | none =>
      have hn : ∀ z ∈ L ++ [x], parted s t z = true → z = x := fun z hz hzp => by
        rw [List.mem_append] at hz
        rcases hz with hz | hz
        · rw [h z hz] at hzp; cases hzp
        · simpa using hz
      refine ⟨⟨x, by simp, hp', rfl⟩, fun z hz hzp => ?_, fun v => ?_⟩
      · rw [hn z hz hzp]; exact Int.le_refl _
      · constructor
        · intro hh z hz hzp _
          rw [hn z hz hzp]; exact hh
        · intro hh
          exact hh x (by simp) hp' rfl
    | some p =>
      obtain ⟨w, c⟩ := p
      obtain ⟨⟨y, h1, h2, h3⟩, h4, h5⟩ := h
      simp only
      have hsplit : ∀ z ∈ L ++ [x], z ∈ L ∨ z = x := fun z hz => by
        rw [List.mem_append] at hz
        rcases hz with hz | hz
        · exact Or.inl hz
        · exact Or.inr (by simpa using hz)
      split
      · next hlt =>
        refine ⟨⟨x, by simp, hp', rfl⟩, fun z hz hzp => ?_, fun v => ?_⟩
        · rcases hsplit z hz with hz | rfl
          · have := h4 z hz hzp; omega
          · exact Int.le_refl _
        · constructor
          · intro hh z hz hzp hzw
            rcases hsplit z hz with hz | rfl
            · have := h4 z hz hzp; omega
            · exact hh
          · intro hh
            exact hh x (by simp) hp' rfl
      · next hlt =>
        split
        · next heq =>
          refine ⟨⟨y, by simp [h1], h2, h3⟩, fun z hz hzp => ?_, fun v => ?_⟩
          · rcases hsplit z hz with hz | rfl
            · exact h4 z hz hzp
            · omega
          · rw [inS_iff, List.mem_filter]
            constructor
            · rintro ⟨a1, a2⟩ z hz hzp hzw
              rcases hsplit z hz with hz | rfl
              · exact (h5 v).1 a2 z hz hzp hzw
              · exact inS_iff.2 a1
            · intro hh
              exact ⟨inS_iff.1 (hh x (by simp) hp' heq), (h5 v).2 fun z hz => hh z (by simp [hz])⟩
        · next hne =>
          refine ⟨⟨y, by simp [h1], h2, h3⟩, fun z hz hzp => ?_, fun v => ?_⟩
          · rcases hsplit z hz with hz | rfl
            · exact h4 z hz hzp
            · omega
          · rw [h5]
            constructor
            · intro hh z hz hzp hzw
              rcases hsplit z hz with hz | rfl
              · exact hh z hz hzp hzw
              · exact absurd hzw hne
            · intro hh z hz
              exact hh z (by simp [hz])
/-- Any side between two is, as far as there are vertices, one of all, turned. -/
theorem side_there {n : Nat} {s t : Int} (hs : 0 ≤ s ∧ s < n) (ht : 0 ≤ t ∧ t < n) {S : Int → Bool} (hp : Parts S s t) :
    ∃ x ∈ allS n, parted s t x = true ∧ ∀ u, 0 ≤ u → u < (n : Int) → inS (orient n s x) u = S u := by
  obtain ⟨p1, p2⟩ := hp
  cases e : S 0 with
  | false =>
    obtain ⟨x, hx, hx2⟩ := all_there e hs p1
    have e1 := (hx2 s hs.1 hs.2).trans p1
    have e2 := (hx2 t ht.1 ht.2).trans p2
    exact ⟨x, hx, by unfold parted; rw [e1, e2]; rfl, fun u a b => by unfold orient; rw [if_pos e1]; exact hx2 u a b⟩
  | true =>
    obtain ⟨x, hx, hx2⟩ := all_there (S := fun v => !S v) (by simp [e]) ht (by simp [p2])
    have e1 : inS x s = false := (hx2 s hs.1 hs.2).trans (by simp [p1])
    have e2 : inS x t = true := (hx2 t ht.1 ht.2).trans (by simp [p2])
    refine ⟨x, hx, by unfold parted; rw [e1, e2]; rfl, fun u a b => ?_⟩
    unfold orient
    rw [if_neg (by rw [e1]; decide), inS_oth x n ⟨a, b⟩, hx2 u a b]
    simp
/-- What comes out of all sides between two: the least cut, and the least of its sides. -/
theorem pair_core {n : Nat} {M : List Ed} (hM : GoodN n M) {s t : Int} (hs : 0 ≤ s ∧ s < n) (ht : 0 ≤ t ∧ t < n) (hst : s ≠ t) {best : Option (Int × List Int)} (h : OkP M n s t best (allS n)) :
    ∃ w c, best = some (w, c) ∧ IsLam M s t w ∧ (∀ v, inS c v = true → 0 ≤ v ∧ v < n) ∧ LeastS M s t (inS c) ∧ ∀ T, LeastS M s t T → ∀ v, 0 ≤ v → v < (n : Int) → inS c v = true → T v = true := by
  cases best with
  | none =>
    obtain ⟨x, hx, hp, -⟩ := side_there hs ht (S := fun v => decide (v = s)) ⟨by simp, decide_eq_false (fun e => hst e.symm)⟩
    rw [h x hx] at hp
    cases hp
  | some p =>
    obtain ⟨w, c⟩ := p
    obtain ⟨⟨y, h1, h2, h3⟩, h4, h5⟩ := h
    have hlow : ∀ T, Parts T s t → w ≤ cutW M T := fun T hT => by
      obtain ⟨x, hx, hp, he⟩ := side_there hs ht hT
      rw [← cut_same hM he]
      exact h4 x hx hp
    have hlam : IsLam M s t w := ⟨⟨_, orient_parts hs ht h2, h3⟩, hlow⟩
    have hin : ∀ v, inS c v = true → 0 ≤ v ∧ v < n := fun v hv => by
      have hy := (h5 v).1 hv y h1 h2 h3
      unfold orient at hy
      split at hy
      · have hr := (chkS_ok (all_right h1).1).1
        exact hr.1 v (inS_iff.1 hy)
      · exact ((oth_mem y v n).1 (inS_iff.1 hy)).1
    have hmin : ∀ T, LeastS M s t T → ∀ v, 0 ≤ v → v < (n : Int) → inS c v = true → T v = true := fun T hT v a b hv => by
      obtain ⟨x, hx, hp, he⟩ := side_there hs ht hT.1
      rw [← he v a b]
      refine (h5 v).1 hv x hx hp ?_
      rw [cut_same hM he]
      exact lam_one hT.lam hlam
    obtain ⟨S, hS, hS2⟩ := core_ex hM.non hst n
    have hsame : ∀ v, 0 ≤ v → v < (n : Int) → inS c v = S v := fun v a b => by
      cases e : S v with
      | true =>
        refine (h5 v).2 fun x hx hp hw => ?_
        have hx2 : LeastS M s t (inS (orient n s x)) := leastS_of hlam (orient_parts hs ht hp) hw
        have := hS2 _ hx2 v.toNat (by omega)
        rw [show ((v.toNat : Nat) : Int) = v by omega] at this
        exact this e
      | false =>
        cases e2 : inS c v with
        | false => rfl
        | true => rw [hmin S hS v a b e2] at e; cases e
    refine ⟨w, c, rfl, hlam, hin, ⟨⟨(hsame s hs.1 hs.2).trans hS.1.1, (hsame t ht.1 ht.2).trans hS.1.2⟩, fun T hT => ?_⟩, hmin⟩
    rw [cut_same hM hsame]
    exact hS.2 T hT
end Go.Proofs.YtceejjgmepaonaaDoor.BrPure
/- The document's Other, Normal, Parts and Same (layer 21). -/
namespace Go.Proofs.YtceejjgmepaonaaDoor.Sd
open Go.RowKit Go.ChangeShapes EdPure NtPure CutPure SdPure Cm
/-- Numbers in a block of the call's own. -/
def OwnI (l : List Int) (w : World) (e : Ending) (w' : World) : Prop := Below w.heap.size w w' ∧ ∃ v, e = .returned v ∧ w'.ownsRow w.heap.size 3 1 v l.length (l.map encZ)
theorem OwnI.ints {l : List Int} {w : World} {e : Ending} {w' : World} (h : OwnI l w e w') : IntsOf l w e w' := by
  obtain ⟨hb, v, rfl, ho⟩ := h
  obtain ⟨p, c, rfl, hr, -⟩ := owns_readsL rfl ho
  exact ⟨hb, p, c, rfl, hr⟩
set_option maxRecDepth 100000 in
set_option maxHeartbeats 2000000 in
theorem refOtherO_any (n : Nat) (hn : n ≤ 100000) (b : Option Addr) (d : Nat) (l : List Int) (hl : l.length ≤ 1000000000) (w : World) (hS : ReadsL encZ w.heap.size w b l) :
    Calls Tryd.prog 34 #[.int .i64 (n : Int), .slice b l.length d] w fun e w' => OwnI (othL l n) w e w' := by
  have HS := Lib.hid hS
  obtain ⟨ti, hi1, hi2, hi3, hi4⟩ := info_int
  clear hS
  go_enter Tryd.func34, Tryd.ntmps34
  go_wp2
  go_loopw [5, 6] (fun s i wr => ∃ (k : Nat) (v : Value), v = s ∧ i = .int .i64 k ∧ k ≤ n ∧ Hid (GrowRel encZ 3 w (othL l k) v wr)) (fun _ i _ => n - (intOf i).toNat)
  case atStart => exact ⟨0, _, rfl, rfl, Nat.zero_le _, Lib.hid (GrowRel.start _ _ _)⟩
  case round =>
    obtain ⟨k, v, rfl, rfl, hk, HK⟩ := hrel
    have hsz := HK.out.1.size
    by_cases hlt : k < n
    · have i1 : (k : Int) < (n : Int) := by omega
      have HI := Lib.hid (in_any b d l hl (k : Int) wr (HS.out.over HK.out.1 (Nat.le_refl _)))
      have hlen := oth_len l k
      have HO : Hid (othL l (k + 1) = othL l k ++ (if inS l (k : Int) = true then [] else [(k : Int)])) := Lib.hid rfl
      cases hb : inS l (k : Int) with
      | true =>
        rw [hb] at HI HO
        have HX : Hid (othL l (k + 1) = othL l k) := Lib.hid (by rw [HO.out, if_pos rfl, List.append_nil])
        clear hb HO
        go_wp2_with fail
        refine HI.out.mono ?_
        rintro e w1 ⟨rfl, rfl⟩
        clear HI
        go_wp2
        go_roundw
        case rel => exact ⟨k + 1, v, rfl, by go_num, hlt, by rw [HX.out]; exact HK⟩
        case measure => simp [intOf]; omega
      | false =>
        rw [hb] at HI HO
        have HX : Hid (othL l (k + 1) = othL l k ++ [(k : Int)]) := Lib.hid (by rw [HO.out, if_neg (by decide)])
        clear hb HO
        generalize othL l k = xs at *
        go_wp2_with fail
        refine HI.out.mono ?_
        rintro e w1 ⟨rfl, rfl⟩
        clear HI
        go_wp2_with (first
          | (at_builtin; refine wpList_append_own _ rfl _ _ 29 rfl w.heap.size 3 ti (.int .i64 0) 1 8 Tryd.underlying29 hi1 hi2 hi3 hi4 rfl (by decide) v xs.length (xs.map encZ) rfl (HK.out.2.alloc _) ⟨w1.heap.size, 0, none⟩ 1 1 [.int .i64 (k : Int)] rfl rfl one_news (by intro u hu; simp at hu; subst hu; rfl) (by unfold maxLen; omega) (by omega) (by simp; omega) ?_; intro v' w6 hown6 hg6 _; have hst := HK.out.step (k : Int) hown6 hg6; rw [← HX.out] at hst; have HS6 := Lib.hid hst; clear hst hown6 hg6))
        go_roundw
        case rel => exact ⟨k + 1, v', rfl, by go_num, hlt, HS6⟩
        case measure => simp [intOf]; omega
    · obtain rfl : k = n := by omega
      obtain ⟨p, cp, rfl, -⟩ := HK.out.reads
      have HKK := HK
      clear HK
      go_wp2
      go_ret
      exact ⟨HKK.out.1, _, rfl, HKK.out.2⟩
theorem refOther_any (n : Nat) (hn : n ≤ 100000) (b : Option Addr) (d : Nat) (l : List Int) (hl : l.length ≤ 1000000000) (w : World) (hS : ReadsL encZ w.heap.size w b l) :
    Calls Tryd.prog 34 #[.int .i64 (n : Int), .slice b l.length d] w fun e w' => IntsOf (othL l n) w e w' := (refOtherO_any n hn b d l hl w hS).mono fun _ _ h => h.ints
/-- What the program answers: numbers, or a cut, and why there are none. -/
def SideL (L : List Int) (z : Int) (w : World) (e : Ending) (w' : World) : Prop := Below w.heap.size w w' ∧ ∃ q c, e = .returned (.tuple #[.slice q L.length c, .int .i64 z]) ∧ ReadsL encZ w'.heap.size w' q L
def SideC (x : Int) (L : List Int) (z : Int) (w : World) (e : Ending) (w' : World) : Prop := Below w.heap.size w w' ∧ ∃ q c, e = .returned (.tuple #[.agg #[.int .i64 x, .slice q L.length c], .int .i64 z]) ∧ ReadsL encZ w'.heap.size w' q L
/-- The same cut? -/
theorem refSame_any (x y : Int) (a b : Option Addr) (c d : Nat) (l r : List Int) (hl : l.length ≤ 1000000000) (w : World) (h1 : ReadsL encZ w.heap.size w a l) (h2 : ReadsL encZ w.heap.size w b r) :
    Calls Tryd.prog 11 #[.agg #[.int .i64 x, .slice a l.length c], .agg #[.int .i64 y, .slice b r.length d]] w fun e w' => e = .returned (.bool (decide (x = y) && decide (l = r))) ∧ Below w.heap.size w w' := by
  have hb1 : Below w.heap.size w (w.alloc (.cells #[.int .i64 x, .slice a l.length c] 31)) := (Below.refl _ _).alloc (Nat.le_refl _) _
  have hb2 := hb1.trans (((Below.refl _ _).alloc (Nat.le_refl _) (.cells #[.int .i64 y, .slice b r.length d] 31)).mono hb1.size)
  have t1 := (TwoAt.new w (.int .i64 x) (.slice a l.length c) 31).on ((Below.refl _ _).alloc (Nat.le_refl _) (.cells #[.int .i64 y, .slice b r.length d] 31)) (by simp)
  have t2 := TwoAt.new (w.alloc (.cells #[.int .i64 x, .slice a l.length c] 31)) (.int .i64 y) (.slice b r.length d) 31
  have hsz : (w.alloc (.cells #[.int .i64 x, .slice a l.length c] 31)).heap.size = w.heap.size + 1 := by simp
  rw [hsz] at t2
  have HB := Lib.hid hb2
  have H1 := Lib.hid (h1.over hb2 (Nat.le_refl _))
  have H2 := Lib.hid (h2.over hb2 (Nat.le_refl _))
  have HT := Lib.hid (And.intro t1 t2)
  have HP : Hid (∀ bb, bb = (decide (x = y) && decide (l = r)) → Ending.returned (.bool bb) = .returned (.bool (decide (x = y) && decide (l = r)))) := Lib.hid (fun bb e => by rw [e])
  clear h1 h2 hb1 hb2 t1 t2 hsz
  go_enter Tryd.func11, Tryd.ntmps11
  go_upto_region 1 with fail
  generalize (w.alloc (.cells #[.int .i64 x, .slice a l.length c] 31)).alloc (.cells #[.int .i64 y, .slice b r.length d] 31) = W at *
  generalize hX : w.heap.size = X at *
  have HX := Lib.hid hX
  clear hX
  obtain ⟨⟨c0, c1, -, -⟩, d0, d1, -, -⟩ := HT.out
  have l0 := HT.out.1.lt
  have l1 := HT.out.2.lt
  by_cases hxy : x = y
  · have HQ := Lib.hid (HP.out (decide (l = r)) (by rw [decide_eq_true hxy]; rfl))
    have t : (x == y) = true := by simpa using hxy
    clear hxy HP
    go_wp2_with fail
    refine (ints_any a b c d l r W H1.out H2.out hl).mono ?_
    rintro e w1 ⟨rfl, m, rfl⟩
    have HB2 := Lib.hid (below_drewN HB.out m)
    go_wp2
    go_ret
    exact ⟨HQ.out, by rw [HX.out]; exact HB2.out⟩
  · have HQ := Lib.hid (HP.out false (by rw [decide_eq_false hxy]; rfl))
    have t : (x == y) = false := by simpa using hxy
    clear hxy HP
    go_wp2
    go_ret
    exact ⟨HQ.out, by rw [HX.out]; exact HB.out⟩
end Go.Proofs.YtceejjgmepaonaaDoor.Sd
/- Why the document tells no least cut; its least cut between two (layer 22). -/
namespace Go.Proofs.YtceejjgmepaonaaDoor.Br
open Go.RowKit Go.ChangeShapes EdPure NtPure CutPure SdPure BrPure Cm Sd
/-- The boxed graph, and the result's place behind it. -/
theorem box_res {w : World} {n : Int} {a : Option Addr} {c : Nat} {M : List Ed} (hR : ReadsE w.heap.size w a M) (T : TypeId) :
    BoxSt w w.heap.size n a c M ((w.alloc (.cells #[.int .i64 n, .slice a M.length c] 35)).alloc (.cells #[.int .i64 0, .slice none 0 0, .int .i64 0] T)) ∧
    ThreeAt (w.heap.size + 1) ((w.alloc (.cells #[.int .i64 n, .slice a M.length c] 35)).alloc (.cells #[.int .i64 0, .slice none 0 0, .int .i64 0] T)) (.int .i64 0) (.slice none 0 0) (.int .i64 0) := by
  refine ⟨(BoxSt.start hR).keep ((Below.refl _ _).alloc (Nat.le_refl _) _), ?_⟩
  have h := ThreeAt.new (w.alloc (.cells #[.int .i64 n, .slice a M.length c] 35)) (.int .i64 0) (.slice none 0 0) (.int .i64 0) T
  have e : (w.alloc (.cells #[.int .i64 n, .slice a M.length c] 35)).heap.size = w.heap.size + 1 := by simp
  rwa [e] at h
set_option maxRecDepth 100000 in
set_option maxHeartbeats 4000000 in
theorem refPairNo_any (n : Nat) (a : Option Addr) (c : Nat) (M : List Ed) (s t : Int) (hE : bothE (n : Int) s t ≠ 0) (w : World) (hR : ReadsE w.heap.size w a M) :
    Calls Tryd.prog 9 #[.agg #[.int .i64 (n : Int), .slice a M.length c], .int .i64 s, .int .i64 t] w fun e w' => GotO 0 [] (bothE (n : Int) s t) w e w' := by
  have HS := Lib.hid (box_res (n := (n : Int)) (c := c) hR 40)
  have HM := Lib.hid (fun w => refBoth_any (n : Int) s t w)
  generalize bothE (n : Int) s t = z at *
  have t1 : (z != 0) = true := by simpa using hE
  clear hR hE
  go_enter Tryd.func9, Tryd.ntmps9
  go_upto_region 1 with fail
  generalize (w.alloc (.cells #[.int .i64 (n : Int), .slice a M.length c] 35)).alloc (.cells #[.int .i64 0, .slice none 0 0, .int .i64 0] 40) = W0 at *
  obtain ⟨b0, b1, -, -⟩ := HS.out.1.2.1
  obtain ⟨r0, r1, r2, e0, e1, e2⟩ := HS.out.2
  have rl := HS.out.2.lt
  go_wp2_with fail
  refine (HM.out W0).mono ?_
  rintro e w0 ⟨rfl, rfl⟩
  have HRES := Lib.hid (three_res HS.out.1.1 HS.out.2 (by omega) (.int .i64 0) (.slice none 0 0) (.int .i64 z))
  go_wp2
  obtain ⟨d0, d1, d2, -⟩ := HRES.out.2
  refine bodyPost_ret (v := .agg #[.int .i64 0, .slice none 0 0, .int .i64 z]) (by simp [results, Tryd.results9, go_sem, d0, d1, d2]) rfl ?_
  exact ⟨HRES.out.1, none, 0, rfl, Or.inl rfl⟩
set_option maxRecDepth 100000 in
set_option maxHeartbeats 4000000 in
theorem refPairLong_any (n : Nat) (hn : 20 < n) (a : Option Addr) (c : Nat) (M : List Ed) (s t : Int) (hE : bothE (n : Int) s t = 0) (w : World) (hR : ReadsE w.heap.size w a M) :
    Calls Tryd.prog 9 #[.agg #[.int .i64 (n : Int), .slice a M.length c], .int .i64 s, .int .i64 t] w fun e w' => GotO 0 [] 3 w e w' := by
  have HS := Lib.hid (box_res (n := (n : Int)) (c := c) hR 40)
  have HM := Lib.hid (fun w => refBoth_any (n : Int) s t w)
  rw [hE] at HM
  clear hR hE
  go_enter Tryd.func9, Tryd.ntmps9
  go_upto_region 1 with fail
  generalize (w.alloc (.cells #[.int .i64 (n : Int), .slice a M.length c] 35)).alloc (.cells #[.int .i64 0, .slice none 0 0, .int .i64 0] 40) = W0 at *
  obtain ⟨b0, b1, -, -⟩ := HS.out.1.2.1
  obtain ⟨r0, r1, r2, e0, e1, e2⟩ := HS.out.2
  have rl := HS.out.2.lt
  go_wp2_with fail
  refine (HM.out W0).mono ?_
  rintro e w0 ⟨rfl, rfl⟩
  have HRES := Lib.hid (three_res HS.out.1.1 HS.out.2 (by omega) (.int .i64 0) (.slice none 0 0) (.int .i64 3))
  go_wp2
  obtain ⟨d0, d1, d2, -⟩ := HRES.out.2
  refine bodyPost_ret (v := .agg #[.int .i64 0, .slice none 0 0, .int .i64 3]) (by simp [results, Tryd.results9, go_sem, d0, d1, d2]) rfl ?_
  exact ⟨HRES.out.1, none, 0, rfl, Or.inl rfl⟩
end Go.Proofs.YtceejjgmepaonaaDoor.Br
