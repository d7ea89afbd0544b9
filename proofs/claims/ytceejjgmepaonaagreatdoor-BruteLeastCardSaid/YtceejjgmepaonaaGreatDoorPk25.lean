/- Texts that the laws of this seat stand on, part 25. -/
import Derived.Test.YtceejjgmepaonaaGreatDoorPk4
import Derived.Test.YtceejjgmepaonaaGreatDoorPk22
import Derived.Test.YtceejjgmepaonaaGreatDoorPk8
import Derived.Test.YtceejjgmepaonaaGreatDoorPk24
import Derived.BigQuiet
/- The least of all sides of a graph is least of all there are; what all least ones between two share is the least side (layer 22). No program in sight. -/
namespace Go.Proofs.YtceejjgmepaonaaGreatDoor.BrPure
open EdPure NtPure CutPure SdPure
theorem all_some {n : Nat} (hn : 2 ≤ n) : allS n ≠ [] := by
  intro e
  have h := sideL_len n (2 ^ (n - 1) - 1)
  unfold allS at e
  rw [e] at h
  have := Nat.pow_le_pow_right (n := 2) (by omega) (show 1 ≤ n - 1 by omega)
  simp at h
  omega
/-- The least of all weighs no more than any side that parts any two vertices. -/
theorem least_all {n : Nat} {M : List Ed} (hM : GoodN n M) {w : Int} {x : List Int} (h : OkB M (some (w, x)) (allS n)) {S : Int → Bool} {s t : Int} (hs : 0 ≤ s ∧ s < n) (ht : 0 ≤ t ∧ t < n) (hp : S s ≠ S t) : w ≤ cutW M S := by
  have key : ∀ T : Int → Bool, T 0 = false → T s ≠ T t → w ≤ cutW M T := fun T h0 hT => by
    have hv : ∃ v : Int, (0 ≤ v ∧ v < n) ∧ T v = true := by
      cases e : T s with
      | true => exact ⟨s, hs, e⟩
      | false => refine ⟨t, ht, ?_⟩
                 cases e2 : T t with
                 | true => rfl
                 | false => rw [e, e2] at hT; exact absurd rfl hT
    obtain ⟨v, hv, hv2⟩ := hv
    obtain ⟨y, hy, hy2⟩ := all_there h0 hv hv2
    rw [← cut_same hM hy2]
    exact h.2.2 y hy
  cases e : S 0 with
  | false => exact key S e hp
  | true =>
    rw [← cut_not M S]
    refine key (fun v => !S v) (by simp [e]) (fun h2 => hp ?_)
    cases a : S s <;> cases b : S t <;> simp [a, b] at h2 ⊢
/-- One side of two, told by the vertex that it holds. -/
def orient (n : Nat) (s : Int) (x : List Int) : List Int := if inS x s = true then x else othL x n
def parted (s t : Int) (x : List Int) : Bool := inS x s != inS x t
theorem inS_oth (x : List Int) (n : Nat) {v : Int} (h : 0 ≤ v ∧ v < n) : inS (othL x n) v = !inS x v := by
  cases e : inS x v with
  | true =>
    cases e2 : inS (othL x n) v with
    | false => rfl
    | true => exact absurd (inS_iff.1 e) ((oth_mem x v n).1 (inS_iff.1 e2)).2
  | false => exact inS_iff.2 ((oth_mem x v n).2 ⟨h, fun hm => by rw [inS_iff.2 hm] at e; cases e⟩)
theorem orient_parts {n : Nat} {s t : Int} (hs : 0 ≤ s ∧ s < n) (ht : 0 ≤ t ∧ t < n) {x : List Int} (h : parted s t x = true) : Parts (inS (orient n s x)) s t := by
  unfold parted at h
  unfold orient Parts
  split
  · next e => rw [e] at h; refine ⟨e, ?_⟩
              cases e2 : inS x t with
              | false => rfl
              | true => rw [e2] at h; cases h
  · next e =>
    have e1 : inS x s = false := by simpa using e
    rw [e1] at h
    rw [inS_oth x n hs, inS_oth x n ht, e1]
    refine ⟨rfl, ?_⟩
    cases e2 : inS x t with
    | true => rfl
    | false => rw [e2] at h; cases h
/-- The least between two, and what all of them share. -/
def stepP (M : List Ed) (n : Nat) (s t : Int) (best : Option (Int × List Int)) (x : List Int) : Option (Int × List Int) :=
  if parted s t x = false then best
  else match best with
    | none => some (cutW M (inS (orient n s x)), orient n s x)
    | some (b, c) => if cutW M (inS (orient n s x)) < b then some (cutW M (inS (orient n s x)), orient n s x)
                     else if cutW M (inS (orient n s x)) = b then some (b, (orient n s x).filter (fun v => inS c v)) else some (b, c)
def OkP (M : List Ed) (n : Nat) (s t : Int) (best : Option (Int × List Int)) (L : List (List Int)) : Prop :=
  match best with
  | none => ∀ x ∈ L, parted s t x = false
  | some (w, c) => (∃ x ∈ L, parted s t x = true ∧ cutW M (inS (orient n s x)) = w) ∧ (∀ x ∈ L, parted s t x = true → w ≤ cutW M (inS (orient n s x))) ∧
      ∀ v, inS c v = true ↔ ∀ x ∈ L, parted s t x = true → cutW M (inS (orient n s x)) = w → inS (orient n s x) v = true
theorem OkP.step {M : List Ed} {n : Nat} {s t : Int} {best : Option (Int × List Int)} {L : List (List Int)} (h : OkP M n s t best L) (x : List Int) : OkP M n s t (stepP M n s t best x) (L ++ [x]) := by
  unfold stepP
  by_cases hp : parted s t x = false
  · rw [if_pos hp]
    cases best with
    | none =>
      intro y hy
      rw [List.mem_append] at hy
      rcases hy with hy | hy
      · exact h y hy
      · simp only [List.mem_singleton] at hy; rw [hy]; exact hp
    | some p =>
      obtain ⟨w, c⟩ := p
      obtain ⟨⟨y, h1, h2, h3⟩, h4, h5⟩ := h
      refine ⟨⟨y, by simp [h1], h2, h3⟩, fun z hz hzp => ?_, fun v => ?_⟩
      · rw [List.mem_append] at hz
        rcases hz with hz | hz
        · exact h4 z hz hzp
        · simp only [List.mem_singleton] at hz; rw [hz, hp] at hzp; cases hzp
      · rw [h5]
        constructor
        · intro hh z hz hzp hzw
          rw [List.mem_append] at hz
          rcases hz with hz | hz
          · exact hh z hz hzp hzw
          · simp only [List.mem_singleton] at hz; rw [hz, hp] at hzp; cases hzp
        · intro hh z hz
          exact hh z (by simp [hz])
  · rw [if_neg hp]
    have hp' : parted s t x = true := by simpa using hp
    cases best with
    | none =>
      have hn : ∀ z ∈ L ++ [x], parted s t z = true → z = x := fun z hz hzp => by
        rw [List.mem_append] at hz
        rcases hz with hz | hz
        · rw [h z hz] at hzp; cases hzp
        · simpa using hz
      refine ⟨⟨x, by simp, hp', rfl⟩, fun z hz hzp => ?_, fun v => ?_⟩
      · rw [hn z hz hzp]; exact Int.le_refl _
      · constructor
        · intro hh z hz hzp _
          rw [hn z hz hzp]; exact hh
        · intro hh
          exact hh x (by simp) hp' rfl
    | some p =>
      obtain ⟨w, c⟩ := p
      obtain ⟨⟨y, h1, h2, h3⟩, h4, h5⟩ := h
      simp only
      have hsplit : ∀ z ∈ L ++ [x], z ∈ L ∨ z = x := fun z hz => by
        rw [List.mem_append] at hz
        rcases hz with hz | hz
        · exact Or.inl hz
        · exact Or.inr (by simpa using hz)
      split
      · next hlt =>
        refine ⟨⟨x, by simp, hp', rfl⟩, fun z hz hzp => ?_, fun v => ?_⟩
        · rcases hsplit z hz with hz | rfl
          · have := h4 z hz hzp; omega
          · exact Int.le_refl _
        · constructor
          · intro hh z hz hzp hzw
            rcases hsplit z hz with hz | rfl
            · have := h4 z hz hzp; omega
            · exact hh
          · intro hh
            exact hh x (by simp) hp' rfl
      · next hlt =>
        split
        · next heq =>
          refine ⟨⟨y, by simp [h1], h2, h3⟩, fun z hz hzp => ?_, fun v => ?_⟩
          · rcases hsplit z hz with hz | rfl
            · exact h4 z hz hzp
            · omega
          · rw [inS_iff, List.mem_filter]
            constructor
            · rintro ⟨a1, a2⟩ z hz hzp hzw
              rcases hsplit z hz with hz | rfl
              · exact (h5 v).1 a2 z hz hzp hzw
              · exact inS_iff.2 a1
            · intro hh
              exact ⟨inS_iff.1 (hh x (by simp) hp' heq), (h5 v).2 fun z hz => hh z (by simp [hz])⟩
        · next hne =>
          refine ⟨⟨y, by simp [h1], h2, h3⟩, fun z hz hzp => ?_, fun v => ?_⟩
          · rcases hsplit z hz with hz | rfl
            · exact h4 z hz hzp
            · omega
          · rw [h5]
            constructor
            · intro hh z hz hzp hzw
              rcases hsplit z hz with hz | rfl
              · exact hh z hz hzp hzw
              · exact absurd hzw hne
            · intro hh z hz
              exact hh z (by simp [hz])
/-- Any side between two is, as far as there are vertices, one of all, turned. -/
theorem side_there {n : Nat} {s t : Int} (hs : 0 ≤ s ∧ s < n) (ht : 0 ≤ t ∧ t < n) {S : Int → Bool} (hp : Parts S s t) :
    ∃ x ∈ allS n, parted s t x = true ∧ ∀ u, 0 ≤ u → u < (n : Int) → inS (orient n s x) u = S u := by
  obtain ⟨p1, p2⟩ := hp
  cases e : S 0 with
  | false =>
    obtain ⟨x, hx, hx2⟩ := all_there e hs p1
    have e1 := (hx2 s hs.1 hs.2).trans p1
    have e2 := (hx2 t ht.1 ht.2).trans p2
    exact ⟨x, hx, by unfold parted; rw [e1, e2]; rfl, fun u a b => by unfold orient; rw [if_pos e1]; exact hx2 u a b⟩
  | true =>
    obtain ⟨x, hx, hx2⟩ := all_there (S := fun v => !S v) (by simp [e]) ht (by simp [p2])
    have e1 : inS x s = false := (hx2 s hs.1 hs.2).trans (by simp [p1])
    have e2 : inS x t = true := (hx2 t ht.1 ht.2).trans (by simp [p2])
    refine ⟨x, hx, by unfold parted; rw [e1, e2]; rfl, fun u a b => ?_⟩
    unfold orient
    rw [if_neg (by rw [e1]; decide), inS_oth x n ⟨a, b⟩, hx2 u a b]
    simp
/-- What comes out of all sides between two: the least cut, and the least of its sides. -/
theorem pair_core {n : Nat} {M : List Ed} (hM : GoodN n M) {s t : Int} (hs : 0 ≤ s ∧ s < n) (ht : 0 ≤ t ∧ t < n) (hst : s ≠ t) {best : Option (Int × List Int)} (h : OkP M n s t best (allS n)) :
    ∃ w c, best = some (w, c) ∧ IsLam M s t w ∧ (∀ v, inS c v = true → 0 ≤ v ∧ v < n) ∧ LeastS M s t (inS c) ∧ ∀ T, LeastS M s t T → ∀ v, 0 ≤ v → v < (n : Int) → inS c v = true → T v = true := by
  cases best with
  | none =>
    obtain ⟨x, hx, hp, -⟩ := side_there hs ht (S := fun v => decide (v = s)) ⟨by simp, decide_eq_false (fun e => hst e.symm)⟩
    rw [h x hx] at hp
    cases hp
  | some p =>
    obtain ⟨w, c⟩ := p
    obtain ⟨⟨y, h1, h2, h3⟩, h4, h5⟩ := h
    have hlow : ∀ T, Parts T s t → w ≤ cutW M T := fun T hT => by
      obtain ⟨x, hx, hp, he⟩ := side_there hs ht hT
      rw [← cut_same hM he]
      exact h4 x hx hp
    have hlam : IsLam M s t w := ⟨⟨_, orient_parts hs ht h2, h3⟩, hlow⟩
    have hin : ∀ v, inS c v = true → 0 ≤ v ∧ v < n := fun v hv => by
      have hy := (h5 v).1 hv y h1 h2 h3
      unfold orient at hy
      split at hy
      · have hr := (chkS_ok (all_right h1).1).1
        exact hr.1 v (inS_iff.1 hy)
      · exact ((oth_mem y v n).1 (inS_iff.1 hy)).1
    have hmin : ∀ T, LeastS M s t T → ∀ v, 0 ≤ v → v < (n : Int) → inS c v = true → T v = true := fun T hT v a b hv => by
      obtain ⟨x, hx, hp, he⟩ := side_there hs ht hT.1
      rw [← he v a b]
      refine (h5 v).1 hv x hx hp ?_
      rw [cut_same hM he]
      exact lam_one hT.lam hlam
    obtain ⟨S, hS, hS2⟩ := core_ex hM.non hst n
    have hsame : ∀ v, 0 ≤ v → v < (n : Int) → inS c v = S v := fun v a b => by
      cases e : S v with
      | true =>
        refine (h5 v).2 fun x hx hp hw => ?_
        have hx2 : LeastS M s t (inS (orient n s x)) := leastS_of hlam (orient_parts hs ht hp) hw
        have := hS2 _ hx2 v.toNat (by omega)
        rw [show ((v.toNat : Nat) : Int) = v by omega] at this
        exact this e
      | false =>
        cases e2 : inS c v with
        | false => rfl
        | true => rw [hmin S hS v a b e2] at e; cases e
    refine ⟨w, c, rfl, hlam, hin, ⟨⟨(hsame s hs.1 hs.2).trans hS.1.1, (hsame t ht.1 ht.2).trans hS.1.2⟩, fun T hT => ?_⟩, hmin⟩
    rw [cut_same hM hsame]
    exact hS.2 T hT
end Go.Proofs.YtceejjgmepaonaaGreatDoor.BrPure
/- The document's Other, Normal, Parts and Same (layer 21). -/
namespace Go.Proofs.YtceejjgmepaonaaGreatDoor.Sd
open Go.RowKit Go.ChangeShapes EdPure NtPure CutPure SdPure Cm
/-- Numbers in a block of the call's own. -/
def OwnI (l : List Int) (w : World) (e : Ending) (w' : World) : Prop := Below w.heap.size w w' ∧ ∃ v, e = .returned v ∧ w'.ownsRow w.heap.size 3 1 v l.length (l.map encZ)
theorem OwnI.ints {l : List Int} {w : World} {e : Ending} {w' : World} (h : OwnI l w e w') : IntsOf l w e w' := by
  obtain ⟨hb, v, rfl, ho⟩ := h
  obtain ⟨p, c, rfl, hr, -⟩ := owns_readsL rfl ho
  exact ⟨hb, p, c, rfl, hr⟩
/-- What the program answers: numbers, or a cut, and why there are none. -/
def SideL (L : List Int) (z : Int) (w : World) (e : Ending) (w' : World) : Prop := Below w.heap.size w w' ∧ ∃ q c, e = .returned (.tuple #[.slice q L.length c, .int .i64 z]) ∧ ReadsL encZ w'.heap.size w' q L
def SideC (x : Int) (L : List Int) (z : Int) (w : World) (e : Ending) (w' : World) : Prop := Below w.heap.size w w' ∧ ∃ q c, e = .returned (.tuple #[.agg #[.int .i64 x, .slice q L.length c], .int .i64 z]) ∧ ReadsL encZ w'.heap.size w' q L
/-- The same cut? -/
theorem refSame_any (x y : Int) (a b : Option Addr) (c d : Nat) (l r : List Int) (hl : l.length ≤ 1000000000) (w : World) (h1 : ReadsL encZ w.heap.size w a l) (h2 : ReadsL encZ w.heap.size w b r) :
    Calls Tryz.prog 11 #[.agg #[.int .i64 x, .slice a l.length c], .agg #[.int .i64 y, .slice b r.length d]] w fun e w' => e = .returned (.bool (decide (x = y) && decide (l = r))) ∧ Below w.heap.size w w' := by
  have hb1 : Below w.heap.size w (w.alloc (.cells #[.int .i64 x, .slice a l.length c] 30)) := (Below.refl _ _).alloc (Nat.le_refl _) _
  have hb2 := hb1.trans (((Below.refl _ _).alloc (Nat.le_refl _) (.cells #[.int .i64 y, .slice b r.length d] 30)).mono hb1.size)
  have t1 := (TwoAt.new w (.int .i64 x) (.slice a l.length c) 30).on ((Below.refl _ _).alloc (Nat.le_refl _) (.cells #[.int .i64 y, .slice b r.length d] 30)) (by simp)
  have t2 := TwoAt.new (w.alloc (.cells #[.int .i64 x, .slice a l.length c] 30)) (.int .i64 y) (.slice b r.length d) 30
  have hsz : (w.alloc (.cells #[.int .i64 x, .slice a l.length c] 30)).heap.size = w.heap.size + 1 := by simp
  rw [hsz] at t2
  have HB := Lib.hid hb2
  have H1 := Lib.hid (h1.over hb2 (Nat.le_refl _))
  have H2 := Lib.hid (h2.over hb2 (Nat.le_refl _))
  have HT := Lib.hid (And.intro t1 t2)
  have HP : Hid (∀ bb, bb = (decide (x = y) && decide (l = r)) → Ending.returned (.bool bb) = .returned (.bool (decide (x = y) && decide (l = r)))) := Lib.hid (fun bb e => by rw [e])
  clear h1 h2 hb1 hb2 t1 t2 hsz
  go_enter Tryz.func11, Tryz.ntmps11
  go_upto_region 1 with fail
  generalize (w.alloc (.cells #[.int .i64 x, .slice a l.length c] 30)).alloc (.cells #[.int .i64 y, .slice b r.length d] 30) = W at *
  generalize hX : w.heap.size = X at *
  have HX := Lib.hid hX
  clear hX
  obtain ⟨⟨c0, c1, -, -⟩, d0, d1, -, -⟩ := HT.out
  have l0 := HT.out.1.lt
  have l1 := HT.out.2.lt
  by_cases hxy : x = y
  · have HQ := Lib.hid (HP.out (decide (l = r)) (by rw [decide_eq_true hxy]; rfl))
    have t : (x == y) = true := by simpa using hxy
    clear hxy HP
    go_wp2_with fail
    refine (ints_any a b c d l r W H1.out H2.out hl).mono ?_
    rintro e w1 ⟨rfl, m, rfl⟩
    have HB2 := Lib.hid (below_drewN HB.out m)
    go_wp2
    go_ret
    exact ⟨HQ.out, by rw [HX.out]; exact HB2.out⟩
  · have HQ := Lib.hid (HP.out false (by rw [decide_eq_false hxy]; rfl))
    have t : (x == y) = false := by simpa using hxy
    clear hxy HP
    go_wp2
    go_ret
    exact ⟨HQ.out, by rw [HX.out]; exact HB.out⟩
end Go.Proofs.YtceejjgmepaonaaGreatDoor.Sd
/- Why the document tells no least cut; its least cut between two (layer 22). -/
namespace Go.Proofs.YtceejjgmepaonaaGreatDoor.Br
open Go.RowKit Go.ChangeShapes EdPure NtPure CutPure SdPure BrPure Cm Sd
/-- The boxed graph, and the result's place behind it. -/
theorem box_res {w : World} {n : Int} {a : Option Addr} {c : Nat} {M : List Ed} (hR : ReadsE w.heap.size w a M) (T : TypeId) :
    BoxSt w w.heap.size n a c M ((w.alloc (.cells #[.int .i64 n, .slice a M.length c] 34)).alloc (.cells #[.int .i64 0, .slice none 0 0, .int .i64 0] T)) ∧
    ThreeAt (w.heap.size + 1) ((w.alloc (.cells #[.int .i64 n, .slice a M.length c] 34)).alloc (.cells #[.int .i64 0, .slice none 0 0, .int .i64 0] T)) (.int .i64 0) (.slice none 0 0) (.int .i64 0) := by
  refine ⟨(BoxSt.start hR).keep ((Below.refl _ _).alloc (Nat.le_refl _) _), ?_⟩
  have h := ThreeAt.new (w.alloc (.cells #[.int .i64 n, .slice a M.length c] 34)) (.int .i64 0) (.slice none 0 0) (.int .i64 0) T
  have e : (w.alloc (.cells #[.int .i64 n, .slice a M.length c] 34)).heap.size = w.heap.size + 1 := by simp
  rwa [e] at h
set_option maxRecDepth 100000 in
set_option maxHeartbeats 4000000 in
theorem refLeastNo_any (n : Nat) (a : Option Addr) (c : Nat) (M : List Ed) (hE : smallE (n : Int) ≠ 0) (w : World) (hR : ReadsE w.heap.size w a M) :
    Calls Tryz.prog 8 #[.agg #[.int .i64 (n : Int), .slice a M.length c]] w fun e w' => GotO 0 [] (smallE (n : Int)) w e w' := by
  have HS := Lib.hid (box_res (n := (n : Int)) (c := c) hR 39)
  have HM := Lib.hid (fun w => refSmall_any (n : Int) w)
  generalize smallE (n : Int) = z at *
  have t1 : (z != 0) = true := by simpa using hE
  clear hR hE
  go_enter Tryz.func8, Tryz.ntmps8
  go_upto_region 1 with fail
  generalize (w.alloc (.cells #[.int .i64 (n : Int), .slice a M.length c] 34)).alloc (.cells #[.int .i64 0, .slice none 0 0, .int .i64 0] 39) = W0 at *
  obtain ⟨b0, b1, -, -⟩ := HS.out.1.2.1
  obtain ⟨r0, r1, r2, e0, e1, e2⟩ := HS.out.2
  have rl := HS.out.2.lt
  go_wp2_with fail
  refine (HM.out W0).mono ?_
  rintro e w0 ⟨rfl, rfl⟩
  have hres := three_res HS.out.1.1 HS.out.2 (by omega) (.int .i64 0) (.slice none 0 0) (.int .i64 z)
  have HRES := Lib.hid hres
  clear hres
  go_wp2
  obtain ⟨d0, d1, d2, -⟩ := HRES.out.2
  refine bodyPost_ret (v := .agg #[.int .i64 0, .slice none 0 0, .int .i64 z]) (by simp [results, Tryz.results8, go_sem, d0, d1, d2]) rfl ?_
  exact ⟨HRES.out.1, none, 0, rfl, Or.inl rfl⟩
end Go.Proofs.YtceejjgmepaonaaGreatDoor.Br
/- The document's least cut between two (layer 22). -/
namespace Go.Proofs.YtceejjgmepaonaaGreatDoor.Br
open Go.RowKit Go.ChangeShapes EdPure NtPure CutPure SdPure BrPure Cm Sd
def pairB (M : List Ed) (n : Nat) (s t : Int) (L : List (List Int)) : Option (Int × List Int) := L.foldl (stepP M n s t) none
theorem pairB_take {M : List Ed} {n : Nat} {s t : Int} {L : List (List Int)} {k : Nat} (hk : k < L.length) : pairB M n s t (L.take (k + 1)) = stepP M n s t (pairB M n s t (L.take k)) L[k] := by
  unfold pairB
  rw [List.take_succ_eq_append_getElem hk, List.foldl_append]
  rfl
theorem pairB_ok (M : List Ed) (n : Nat) (s t : Int) (L : List (List Int)) : OkP M n s t (pairB M n s t L) L := by
  have : ∀ k, k ≤ L.length → OkP M n s t (pairB M n s t (L.take k)) (L.take k) := by
    intro k
    induction k with
    | zero => intro _ x hx; simp at hx
    | succ k ih =>
      intro hk
      rw [pairB_take (by omega), List.take_succ_eq_append_getElem (by omega)]
      exact (ih (by omega)).step _
  have h := this L.length (Nat.le_refl _)
  rwa [List.take_length] at h
theorem pairB_pos {M : List Ed} (hn : NonNeg M) {n : Nat} {s t : Int} {L : List (List Int)} {b : Int} {c : List Int} (h : pairB M n s t L = some (b, c)) : 0 ≤ b := by
  have h2 := pairB_ok M n s t L
  rw [h] at h2
  obtain ⟨⟨x, -, -, e⟩, -⟩ := h2
  rw [← e]
  exact cut_nonneg hn _
theorem stepP_same {M : List Ed} {n : Nat} {s t : Int} {best : Option (Int × List Int)} {x : List Int} (h : inS x s = inS x t) : stepP M n s t best x = best := by
  unfold stepP parted
  rw [h]
  simp
theorem stepP_new {M : List Ed} {n : Nat} {s t : Int} {best : Option (Int × List Int)} {x : List Int} (h : inS x s ≠ inS x t) (hb : best = none ∨ ∃ b c, best = some (b, c) ∧ cutW M (inS (orient n s x)) < b) :
    stepP M n s t best x = some (cutW M (inS (orient n s x)), orient n s x) := by
  unfold stepP parted
  rw [if_neg (by simpa using h)]
  rcases hb with rfl | ⟨b, c, rfl, hlt⟩
  · rfl
  · exact if_pos hlt
theorem stepP_eq {M : List Ed} {n : Nat} {s t : Int} {b : Int} {c x : List Int} (h : inS x s ≠ inS x t) (hb : cutW M (inS (orient n s x)) = b) :
    stepP M n s t (some (b, c)) x = some (b, (orient n s x).filter (fun v => inS c v)) := by
  unfold stepP parted
  rw [if_neg (by simpa using h)]
  show (if _ then _ else _) = _
  rw [if_neg (by omega), if_pos hb]
theorem stepP_more {M : List Ed} {n : Nat} {s t : Int} {b : Int} {c x : List Int} (h : inS x s ≠ inS x t) (hb : b < cutW M (inS (orient n s x))) : stepP M n s t (some (b, c)) x = some (b, c) := by
  unfold stepP parted
  rw [if_neg (by simpa using h)]
  show (if _ then _ else _) = _
  rw [if_neg (by omega), if_neg (by omega)]
/-- The best so far in its variable; its side lies beside it. -/
def BpAt (B0 : Nat) (W1 : World) (X : Nat) (best : Option (Int × List Int)) (wr : World) : Prop :=
  Below W1.heap.size W1 wr ∧ W1.heap.size ≤ X ∧ (sB best).length ≤ 1000 ∧ ∃ q c, TwoAt X wr (.int .i64 (wB best)) (.slice q (sB best).length c) ∧ ReadsL encZ wr.heap.size wr q (sB best) ∧ ∀ z, q = some z → B0 ≤ z.block ∧ z.block ≠ X
theorem BpAt.keep {B0 : Nat} {W1 wr w' : World} {X : Nat} {best : Option (Int × List Int)} (h : BpAt B0 W1 X best wr) (hb : Below wr.heap.size wr w') : BpAt B0 W1 X best w' := by
  obtain ⟨h1, h2, h0, q, c, h3, h4, h5⟩ := h
  exact ⟨h1.trans (hb.mono h1.size), h2, h0, q, c, h3.on hb h3.lt, h4.over hb (Nat.le_refl _), h5⟩
theorem reads_ne {α : Type} {enc : α → Value} {X : Nat} {o : Nat} {wr : World} {q : Option Addr} {l : List α} (hr : ReadsL enc wr.heap.size wr q l) (hq : ∀ z, q = some z → z.block ≠ X) (x : Value) :
    ReadsL enc (wr.setCell ⟨X, o, none⟩ x).heap.size (wr.setCell ⟨X, o, none⟩ x) q l := by
  rcases hr with h | ⟨b, off, rfl, hN, hc⟩
  · exact Or.inl h
  · refine Or.inr ⟨b, off, rfl, by simpa using hN, fun i hi => ?_⟩
    rw [World.cell?_setCell_other _ ⟨X, o, none⟩ ⟨b, off + i, none⟩ _ (fun e => hq _ rfl (congrArg Addr.block e).symm)]
    exact hc i hi
theorem BpAt.store {B0 : Nat} {W1 wr : World} {X : Nat} {best : Option (Int × List Int)} (h : BpAt B0 W1 X best wr) {y : Int} {q : Option Addr} {l : List Int} {c : Nat} (hr : ReadsL encZ wr.heap.size wr q l) (hq : ∀ z, q = some z → B0 ≤ z.block ∧ z.block ≠ X) (hl : l.length ≤ 1000) :
    BpAt B0 W1 X (some (y, l)) ((wr.setCell ⟨X, 0, none⟩ (.int .i64 y)).setCell ⟨X, 1, none⟩ (.slice q l.length c)) := by
  obtain ⟨h1, h2, h0, q0, c0, h3, h4, h5⟩ := h
  exact ⟨(h1.setCell (p := ⟨X, 0, none⟩) h2 _).setCell (p := ⟨X, 1, none⟩) h2 _, h2, hl, q, c, h3.set _ _, reads_ne (reads_ne hr (fun z hz => (hq z hz).2) _) (fun z hz => (hq z hz).2) _, hq⟩
theorem BpAt.side {B0 : Nat} {W1 wr : World} {X : Nat} {y : Int} {s0 : List Int} (h : BpAt B0 W1 X (some (y, s0)) wr) {q : Option Addr} {l : List Int} {c : Nat} (hr : ReadsL encZ wr.heap.size wr q l) (hq : ∀ z, q = some z → B0 ≤ z.block ∧ z.block ≠ X) (hl : l.length ≤ 1000) :
    BpAt B0 W1 X (some (y, l)) (wr.setCell ⟨X, 1, none⟩ (.slice q l.length c)) := by
  obtain ⟨h1, h2, h0, q0, c0, ⟨k0, k1, f0, f1⟩, h4, h5⟩ := h
  refine ⟨h1.setCell (p := ⟨X, 1, none⟩) h2 _, h2, hl, q, c, ⟨?_, ?_, ?_, ?_⟩, reads_ne hr (fun z hz => (hq z hz).2) _, hq⟩
  · exact (World.cell?_setCell_other wr ⟨X, 1, none⟩ ⟨X, 0, none⟩ _ (by simp)).trans k0
  · exact World.cell?_setCell_same _ _ _ k1
  · simpa using f0
  · simpa using f1
theorem BpAt.new {B0 : Nat} {W1 : World} {T : TypeId} : BpAt B0 W1 W1.heap.size none (W1.alloc (.cells #[.int .i64 (-1), .slice none 0 0] T)) :=
  ⟨(Below.refl _ _).alloc (Nat.le_refl _) _, Nat.le_refl _, Nat.zero_le _, none, 0, TwoAt.new _ _ _ _, Or.inl rfl, fun z h => by cases h⟩
theorem filt_take {x : List Int} {p : Int → Bool} {k : Nat} (hk : k < x.length) : (x.take (k + 1)).filter p = (x.take k).filter p ++ (if p x[k] = true then [x[k]] else []) := by
  rw [List.take_succ_eq_append_getElem hk, List.filter_append]
  by_cases h : p x[k] = true
  · rw [if_pos h]; simp [h]
  · rw [if_neg h]; simp [h]
/-- An answer whose list lies no elder than the call. -/
def GotN (W : Int) (s : List Int) (E : Int) (w : World) (e : Ending) (w' : World) : Prop :=
  Below w.heap.size w w' ∧ ∃ q c, e = .returned (.agg #[.int .i64 W, .slice q s.length c, .int .i64 E]) ∧ ReadsL encZ w'.heap.size w' q s ∧ ∀ z, q = some z → w.heap.size ≤ z.block
theorem GotN.old {W : Int} {s : List Int} {E : Int} {w w' : World} {e : Ending} (h : GotN W s E w e w') : GotO W s E w e w' := by
  obtain ⟨h1, q, c, h2, h3, -⟩ := h
  exact ⟨h1, q, c, h2, h3⟩
end Go.Proofs.YtceejjgmepaonaaGreatDoor.Br
/- What all least sides between two share rises (layer 22). -/
namespace Go.Proofs.YtceejjgmepaonaaGreatDoor.Br
open Go.RowKit Go.ChangeShapes EdPure NtPure CutPure SdPure BrPure Cm Sd
theorem oth_rises (l : List Int) : ∀ k : Nat, (othL l k).Pairwise (· < ·)
  | 0 => List.Pairwise.nil
  | k + 1 => by
    unfold othL
    rw [List.pairwise_append]
    refine ⟨oth_rises l k, by split <;> simp, fun a ha b hb => ?_⟩
    have h1 := ((oth_mem l a k).1 ha).1
    split at hb
    · simp at hb
    · rw [List.mem_singleton.1 hb]; omega
theorem orient_rises {n : Nat} {s : Int} {x : List Int} (h : x.Pairwise (· < ·)) : (orient n s x).Pairwise (· < ·) := by
  unfold orient
  split
  · exact h
  · exact oth_rises x n
theorem stepP_rises {M : List Ed} {n : Nat} {s t : Int} {best : Option (Int × List Int)} {x : List Int} (hx : x.Pairwise (· < ·)) (h : (sB best).Pairwise (· < ·)) : (sB (stepP M n s t best x)).Pairwise (· < ·) := by
  have ho := orient_rises (n := n) (s := s) hx
  unfold stepP
  split
  · exact h
  · cases best with
    | none => exact ho
    | some p =>
      obtain ⟨b, c⟩ := p
      show (sB (if _ then _ else _)).Pairwise (· < ·)
      split
      · exact ho
      · split
        · exact ho.filter _
        · exact h
theorem pairB_rises {M : List Ed} {n : Nat} {s t : Int} (L : List (List Int)) (hL : ∀ l ∈ L, l.Pairwise (· < ·)) : (sB (pairB M n s t L)).Pairwise (· < ·) := by
  have : ∀ k, k ≤ L.length → (sB (pairB M n s t (L.take k))).Pairwise (· < ·) := by
    intro k
    induction k with
    | zero => intro _; exact List.Pairwise.nil
    | succ k ih =>
      intro hk
      rw [pairB_take (by omega)]
      exact stepP_rises (hL _ (List.getElem_mem _)) (ih (by omega))
  have h := this L.length (Nat.le_refl _)
  rwa [List.take_length] at h
theorem rises_len : ∀ {l : List Int} {a b : Int}, l.Pairwise (· < ·) → (∀ v ∈ l, a ≤ v ∧ v < b) → a ≤ b → (l.length : Int) ≤ b - a
  | [], _, _, _, _, _ => by simp; omega
  | x :: r, a, b, h, hv, _ => by
    obtain ⟨h1, h2⟩ := List.pairwise_cons.1 h
    have hx := hv x (by simp)
    have := rises_len (a := x + 1) (b := b) h2 (fun v hr => ⟨by have := h1 v hr; omega, (hv v (by simp [hr])).2⟩) (by omega)
    rw [List.length_cons]
    omega
/-- A rising list that misses one has room. -/
theorem rises_miss : ∀ {l : List Int} {a b t : Int}, l.Pairwise (· < ·) → (∀ v ∈ l, a ≤ v ∧ v < b) → a ≤ t → t < b → t ∉ l → (l.length : Int) < b - a
  | [], _, _, _, _, _, _, _, _ => by simp; omega
  | x :: r, a, b, t, h, hv, h3, h4, hn => by
    have h' := h
    obtain ⟨h1, h2⟩ := List.pairwise_cons.1 h
    have hx := hv x (by simp)
    have hne : t ≠ x := fun e => hn (by simp [e])
    by_cases hlt : x < t
    · have := rises_miss (a := x + 1) (b := b) (t := t) h2 (fun v hr => ⟨by have := h1 v hr; omega, (hv v (by simp [hr])).2⟩) (by omega) h4 (fun hr => hn (by simp [hr]))
      rw [List.length_cons]
      omega
    · have := rises_len (a := x) (b := b) h' (fun v hr => ⟨by
        rcases List.mem_cons.1 hr with rfl | hr
        · exact Int.le_refl _
        · have := h1 v hr; omega, (hv v hr).2⟩) (by omega)
      omega
end Go.Proofs.YtceejjgmepaonaaGreatDoor.Br
