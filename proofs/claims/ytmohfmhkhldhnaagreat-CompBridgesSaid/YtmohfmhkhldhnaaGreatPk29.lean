/- Texts that the laws of this seat stand on, part 29. -/
import Derived.Test.YtmohfmhkhldhnaaGreatPk28
import Derived.Test.YtmohfmhkhldhnaaGreatPk25
import Derived.Test.YtmohfmhkhldhnaaGreatPk26
import Derived.Test.YtmohfmhkhldhnaaGreatPk3
/- A walk over vertices in memory: its four parts, what is reached, the ways and the places, each in a row of its own; what a step turns. -/
namespace Go.Proofs.YtmohfmhkhldhnaaGreat.Cm
open Go.RowKit Go.ChangeShapes EdPure NtPure DsuPure CmPure
/-- At block b the parts, at g the places; rv and uv what is reached and by which way. -/
def WkX (b g : Nat) (p : Option Addr) (rv uv : Value) (R : List Nat) (U P : List Int) (w : World) : Prop :=
  FourAt b w (.pointer p) rv uv (.slice (some ⟨g, 0, none⟩) P.length P.length) ∧ (g < b ∧ RowIs g w (P.map encZ)) ∧
  (w.ownsRow (b + 1) 3 1 rv R.length ((zN R).map encZ) ∧ w.ownsRow (b + 1) 3 1 uv U.length (U.map encZ)) ∧ (rv.ownBlock = none ∨ rv.ownBlock ≠ uv.ownBlock)
/-- The walk's own blocks. -/
def WkO (b g : Nat) (rv uv : Value) (k : Nat) : Prop := k = b ∨ k = g ∨ rv.ownBlock = some k ∨ uv.ownBlock = some k
section
variable {b g : Nat} {p : Option Addr} {rv uv : Value} {R : List Nat} {U P : List Int} {w w' : World}
theorem WkX.lt (h : WkX b g p rv uv R U P w) {k : Nat} (hk : WkO b g rv uv k) : g ≤ k ∧ k < w.heap.size := by
  obtain ⟨h1, ⟨h2, -⟩, ⟨h3, h4⟩, -⟩ := h
  have hb := h1.lt
  rcases hk with rfl | rfl | hk | hk
  · omega
  · omega
  · have := h3.lt k hk; omega
  · have := h4.lt k hk; omega
theorem WkX.same (h : WkX b g p rv uv R U P w) (hs : ∀ k, k < w.heap.size → WkO b g rv uv k → w'.heap[k]? = w.heap[k]?) : WkX b g p rv uv R U P w' := by
  have hl := fun k => h.lt (k := k)
  have hs' : ∀ k, WkO b g rv uv k → w'.heap[k]? = w.heap[k]? := fun k hk => hs k (hl k hk).2 hk
  obtain ⟨h1, ⟨h2, h3⟩, ⟨h4, h5⟩, h6⟩ := h
  exact ⟨row_same h1 (hs' b (Or.inl rfl)), ⟨h2, row_same h3 (hs' g (Or.inr (Or.inl rfl)))⟩, ⟨owns_same h4 fun k e => hs' k (Or.inr (Or.inr (Or.inl e))), owns_same h5 fun k e => hs' k (Or.inr (Or.inr (Or.inr e)))⟩, h6⟩
theorem WkX.past {O : Nat → Prop} (h : WkX b g p rv uv R U P w) (ht : Turn O w w') (hd : ∀ k, WkO b g rv uv k → ¬ O k) : WkX b g p rv uv R U P w' :=
  h.same fun k hk ho => ht.2.2.2.2 k hk (hd k ho)
theorem WkX.keep (h : WkX b g p rv uv R U P w) (hb : Below w.heap.size w w') : WkX b g p rv uv R U P w' := h.same fun k hk _ => hb.block k hk
theorem WkX.drawn (h : WkX b g p rv uv R U P w) (n : Nat) : WkX b g p rv uv R U P (w.drewN n) := h.keep (below_drewN (Below.refl _ _) n)
/-- What a walk reads. -/
theorem WkX.cells (h : WkX b g p rv uv R U P w) : ∃ rq rc uq uc, rv = .slice rq R.length rc ∧ uv = .slice uq U.length uc ∧
    (w.cell? ⟨b, 0, none⟩ = some (.pointer p) ∧ w.cell? ⟨b, 1, none⟩ = some (.slice rq R.length rc) ∧ w.cell? ⟨b, 2, none⟩ = some (.slice uq U.length uc) ∧ w.cell? ⟨b, 3, none⟩ = some (.slice (some ⟨g, 0, none⟩) P.length P.length)) ∧
    (w.frozen? ⟨b, 1, none⟩ = false ∧ w.frozen? ⟨b, 2, none⟩ = false) ∧ (b < w.heap.size ∧ g < w.heap.size ∧ b ≠ g ∧ g ≠ b) ∧ ReadsL encZ w.heap.size w rq (zN R) ∧ ReadsL encZ w.heap.size w uq U := by
  have hg := (h.lt (Or.inr (Or.inl rfl) : WkO b g rv uv g)).2
  obtain ⟨h1, ⟨h2, h3⟩, ⟨h4, h5⟩, h6⟩ := h
  have hz : (zN R).length = R.length := by unfold zN; simp
  obtain ⟨rq, rc, e1, r1, -⟩ := owns_readsL hz.symm h4
  obtain ⟨uq, uc, e2, r2, -⟩ := owns_readsL rfl h5
  rw [hz] at e1
  subst e1
  subst e2
  obtain ⟨⟨c0, c1, c2, c3⟩, f0, f1, f2, f3⟩ := h1.cells
  exact ⟨rq, rc, uq, uc, rfl, rfl, ⟨c0, c1, c2, c3⟩, ⟨f1, f2⟩, ⟨h1.lt, hg, by omega, by omega⟩, r1, r2⟩
theorem WkX.place (h : WkX b g p rv uv R U P w) {x : Nat} {z : Int} (hx : P[x]? = some z) : w.cell? ⟨g, x, none⟩ = some (.int .i64 z) ∧ w.frozen? ⟨g, x, none⟩ = false := by
  obtain ⟨hl, rfl⟩ := List.getElem?_eq_some_iff.1 hx
  have := h.2.1.2 x (by simpa using hl)
  simpa [encZ] using this
/-- A place is laid. -/
theorem WkX.put (h : WkX b g p rv uv R U P w) {x : Nat} (hx : x < P.length) (z : Int) : WkX b g p rv uv R U (P.set x z) (w.setCell ⟨g, x, none⟩ (.int .i64 z)) := by
  obtain ⟨h1, ⟨h2, h3⟩, ⟨h4, h5⟩, h6⟩ := h
  refine ⟨?_, ⟨h2, ?_⟩, ⟨owns_setCell h4 (by simp; omega) _, owns_setCell h5 (by simp; omega) _⟩, h6⟩
  · rw [List.length_set]
    exact row_same h1 (cell_other (by omega))
  · have := h3.set (k := x) (by simpa using hx) (.int .i64 z)
    rwa [show (Value.int .i64 z) = encZ z from rfl, ← List.map_set] at this
/-- What a call of the walk leaves: nothing but its own blocks is turned. -/
def WkOut (b g : Nat) (p : Option Addr) (rv uv : Value) (R : List Nat) (U P : List Int) (w w' : World) : Prop :=
  ∃ rv' uv', WkX b g p rv' uv' R U P w' ∧ Turn (WkO b g rv uv) w w' ∧ ∀ k, WkO b g rv' uv' k → WkO b g rv uv k ∨ w.heap.size ≤ k
theorem WkOut.refl (h : WkX b g p rv uv R U P w) : WkOut b g p rv uv R U P w w := ⟨rv, uv, h, Turn.refl _ _, fun _ hk => Or.inl hk⟩
theorem WkOut.trans {rv1 uv1 : Value} {R1 : List Nat} {U1 P1 : List Int} {w1 w2 : World} (ht : Turn (WkO b g rv uv) w w1) (ho : ∀ k, WkO b g rv1 uv1 k → WkO b g rv uv k ∨ w.heap.size ≤ k) (h2 : WkOut b g p rv1 uv1 R1 U1 P1 w1 w2) : WkOut b g p rv uv R1 U1 P1 w w2 := by
  obtain ⟨rv2, uv2, k1, k2, k3⟩ := h2
  refine ⟨rv2, uv2, k1, ht.trans k2 ho, fun k hk => ?_⟩
  rcases k3 k hk with e | e
  · exact ho k e
  · exact Or.inr (Nat.le_trans ht.size e)
/-- What is reached is put behind the others. -/
theorem WkX.pushR {rv' : Value} {x : Nat} {w1 w2 : World} (h : WkX b g p rv uv R U P w) (hb : Below w.heap.size w w1) (hown : w2.ownsRow (b + 1) 3 1 rv' (R.length + 1) ((zN R).map encZ ++ [.int .i64 (x : Int)])) (hg : w1.grownBy w2 rv.ownBlock)
    (hat : rv'.ownBlock = rv.ownBlock ∨ rv'.ownBlock = some w1.heap.size) :
    (w2.cell? ⟨b, 1, none⟩ = some rv ∧ w2.frozen? ⟨b, 1, none⟩ = false ∧ b < w2.heap.size) ∧ WkX b g p rv' uv (R ++ [x]) U P (w2.setCell ⟨b, 1, none⟩ rv') ∧
    Turn (WkO b g rv uv) w (w2.setCell ⟨b, 1, none⟩ rv') ∧ ∀ k, WkO b g rv' uv k → WkO b g rv uv k ∨ w.heap.size ≤ k := by
  have hl := fun k => h.lt (k := k)
  have s1 := hb.size
  have s2 := hg.size
  have hbl := (hl b (Or.inl rfl)).2
  have hgl := (hl g (Or.inr (Or.inl rfl))).2
  obtain ⟨h1, ⟨h2, h3⟩, ⟨h4, h5⟩, h6⟩ := h
  have hk2 : ∀ k, k < w.heap.size → rv.ownBlock ≠ some k → w2.heap[k]? = w.heap[k]? := fun k hk e => (hg.block k (by omega) (fun e2 => e e2.symm)).trans (hb.block k hk)
  have hrb : rv.ownBlock ≠ some b := fun e => by have := (h4.lt _ e).1; omega
  have hrg : rv.ownBlock ≠ some g := fun e => by have := (h4.lt _ e).1; omega
  have h1' : FourAt b w2 _ _ _ _ := row_same h1 (hk2 b hbl hrb)
  have ht : Turn (WkO b g rv uv) w w2 := (Turn.ofBelow hb).trans (Turn.grown hg (O := WkO b g rv uv) fun k e => Or.inr (Or.inr (Or.inl e))) fun _ e => Or.inl e
  refine ⟨⟨h1'.cells.1.2.1, h1'.cells.2.2.1, by omega⟩, ⟨(four_set h1' _).1, ⟨h2, row_same h3 ((cell_other (by omega)).trans (hk2 g hgl hrg))⟩, ⟨?_, ?_⟩, ?_⟩, ht.trans (Turn.cell _ 1 _ (Or.inl rfl)) fun _ e => Or.inl e, fun k hk => ?_⟩
  · have e : (zN (R ++ [x])).map encZ = (zN R).map encZ ++ [.int .i64 (x : Int)] := by unfold zN; simp [encZ]
    rw [e, List.length_append]
    exact owns_setCell hown (p := ⟨b, 1, none⟩) (Nat.lt_succ_self _) rv'
  · refine owns_same h5 fun k e => (cell_other (fun e2 => by have := (h5.lt k e).1; omega)).trans (hk2 k (h5.lt k e).2 (fun e2 => ?_))
    rcases h6 with e3 | e3
    · rw [e3] at e2; cases e2
    · exact e3 (e2.trans e.symm)
  · rcases hat with e | e
    · rw [e]; exact h6
    · refine Or.inr fun e2 => ?_
      rw [e] at e2
      have := (h5.lt _ e2.symm).2
      omega
  · rcases hk with rfl | rfl | hk | hk
    · exact Or.inl (Or.inl rfl)
    · exact Or.inl (Or.inr (Or.inl rfl))
    · rcases hat with e | e
      · exact Or.inl (Or.inr (Or.inr (Or.inl (e ▸ hk))))
      · rw [e] at hk
        have := Option.some.inj hk
        exact Or.inr (by omega)
    · exact Or.inl (Or.inr (Or.inr (Or.inr hk)))
/-- So is the way to it. -/
theorem WkX.pushU {uv' : Value} {u : Int} {w1 w2 : World} (h : WkX b g p rv uv R U P w) (hb : Below w.heap.size w w1) (hown : w2.ownsRow (b + 1) 3 1 uv' (U.length + 1) (U.map encZ ++ [.int .i64 u])) (hg : w1.grownBy w2 uv.ownBlock)
    (hat : uv'.ownBlock = uv.ownBlock ∨ uv'.ownBlock = some w1.heap.size) :
    (w2.cell? ⟨b, 2, none⟩ = some uv ∧ w2.frozen? ⟨b, 2, none⟩ = false ∧ b < w2.heap.size) ∧ WkX b g p rv uv' R (U ++ [u]) P (w2.setCell ⟨b, 2, none⟩ uv') ∧
    Turn (WkO b g rv uv) w (w2.setCell ⟨b, 2, none⟩ uv') ∧ ∀ k, WkO b g rv uv' k → WkO b g rv uv k ∨ w.heap.size ≤ k := by
  have hl := fun k => h.lt (k := k)
  have s1 := hb.size
  have s2 := hg.size
  have hbl := (hl b (Or.inl rfl)).2
  have hgl := (hl g (Or.inr (Or.inl rfl))).2
  obtain ⟨h1, ⟨h2, h3⟩, ⟨h4, h5⟩, h6⟩ := h
  have hk2 : ∀ k, k < w.heap.size → uv.ownBlock ≠ some k → w2.heap[k]? = w.heap[k]? := fun k hk e => (hg.block k (by omega) (fun e2 => e e2.symm)).trans (hb.block k hk)
  have hrb : uv.ownBlock ≠ some b := fun e => by have := (h5.lt _ e).1; omega
  have hrg : uv.ownBlock ≠ some g := fun e => by have := (h5.lt _ e).1; omega
  have h1' : FourAt b w2 _ _ _ _ := row_same h1 (hk2 b hbl hrb)
  have ht : Turn (WkO b g rv uv) w w2 := (Turn.ofBelow hb).trans (Turn.grown hg (O := WkO b g rv uv) fun k e => Or.inr (Or.inr (Or.inr e))) fun _ e => Or.inl e
  refine ⟨⟨h1'.cells.1.2.2.1, h1'.cells.2.2.2.1, by omega⟩, ⟨(four_set h1' _).2.1, ⟨h2, row_same h3 ((cell_other (by omega)).trans (hk2 g hgl hrg))⟩, ⟨?_, ?_⟩, ?_⟩, ht.trans (Turn.cell _ 2 _ (Or.inl rfl)) fun _ e => Or.inl e, fun k hk => ?_⟩
  · refine owns_same h4 fun k e => (cell_other (fun e2 => by have := (h4.lt k e).1; omega)).trans (hk2 k (h4.lt k e).2 (fun e2 => ?_))
    rcases h6 with e3 | e3
    · rw [e3] at e; cases e
    · exact e3 (e.trans e2.symm)
  · rw [List.map_append, List.length_append]
    exact owns_setCell hown (p := ⟨b, 2, none⟩) (Nat.lt_succ_self _) uv'
  · rcases hat with e | e
    · rw [e]; exact h6
    · cases e3 : rv.ownBlock with
      | none => exact Or.inl rfl
      | some k =>
        refine Or.inr fun e2 => ?_
        rw [e] at e2
        have := (h4.lt _ e3).2
        have := Option.some.inj e2
        omega
  · rcases hk with rfl | rfl | hk | hk
    · exact Or.inl (Or.inl rfl)
    · exact Or.inl (Or.inr (Or.inl rfl))
    · exact Or.inl (Or.inr (Or.inr (Or.inl hk)))
    · rcases hat with e | e
      · exact Or.inl (Or.inr (Or.inr (Or.inr (e ▸ hk))))
      · rw [e] at hk
        have := Option.some.inj hk
        exact Or.inr (by omega)
end
end Go.Proofs.YtmohfmhkhldhnaaGreat.Cm
/- Contract of close: all places on the ways up from two places to where they meet are joined. (gen/cmclose.py writes it.) -/
namespace Go.Proofs.YtmohfmhkhldhnaaGreat.Cm
open Go.RowKit Go.ChangeShapes EdPure NtPure DsuPure CmPure Ds
theorem exists_least {p : Nat → Prop} (h : ∃ m, p m) : ∃ m, p m ∧ ∀ k, p k → m ≤ k := by
  obtain ⟨m, hm⟩ := h
  induction m using Nat.strongRecOn with
  | ind m ih =>
    by_cases e : ∃ k, p k ∧ k < m
    · obtain ⟨k, hk, hkm⟩ := e
      exact ih k hkm hk
    · exact ⟨m, hm, fun k hk => Nat.le_of_not_lt (fun e2 => e ⟨k, hk, e2⟩)⟩
open Classical in
/-- The least number of which something is told. -/
noncomputable def leastN (p : Nat → Prop) : Nat := if h : ∃ m, p m then (exists_least h).choose else 0
theorem leastN_spec {p : Nat → Prop} (h : ∃ m, p m) : p (leastN p) ∧ ∀ k, p k → leastN p ≤ k := by
  unfold leastN
  rw [dif_pos h]
  exact (exists_least h).choose_spec
theorem wk_turns {b g cg cm : Nat} {p : Option Addr} {rv uv : Value} {R : List Nat} {U P : List Int} {w w' : World} (h : WkX b g p rv uv R U P w) (ht : Turns cg cm w w') (hf : ∀ k, WkO b g rv uv k → k ≠ cg ∧ k ≠ cm) : WkX b g p rv uv R U P w' :=
  h.same fun k hk ho => ht.2.2.2.2 k hk (hf k ho).1 (hf k ho).2
theorem same_fit {n : Nat} (r : Nat → Nat) {u v : Nat} (hu : u < n) (hv : v < n) : sameZ n r (u : Int) (v : Int) = decide (r u = r v) := by
  unfold sameZ
  rw [fit_of hu, fit_of hv]
  simp
theorem of_fit' {n : Nat} (r : Nat → Nat) {u : Nat} (hu : u < n) : ofZ n r (u : Int) = (r u : Int) := by
  unfold ofZ
  rw [fit_of hu]
  simp
theorem join_le {n : Nat} (r : Nat → Nat) (u v : Int) (x : Nat) : joinZ n r u v x ≤ r x := by
  unfold joinZ
  split
  · unfold joinN
    split <;> omega
  · exact Nat.le_refl _
theorem join_less {n : Nat} {r : Nat → Nat} (h : Names n r) {u j : Nat} (hu : u < n) (hj : j < r u) : joinZ n r ((r u : Nat) : Int) (j : Int) u < r u := by
  have h1 := h.1 u
  have h2 := h.2.1 u
  have h3 := h.1 j
  unfold joinZ
  rw [fit_of (by omega : r u < n), fit_of (by omega : j < n)]
  simp only [Bool.and_self, if_true, Int.toNat_natCast]
  unfold joinN
  rw [if_pos (Or.inl h2.symm), h2]
  omega
theorem reads_at {q : Option Addr} {l : List Int} {w : World} (h : ReadsL encZ w.heap.size w q l) {k : Nat} {z : Int} (hk : l[k]? = some z) : ∃ b off, q = some ⟨b, off, none⟩ ∧ w.cell? ⟨b, off + k, none⟩ = some (.int .i64 z) ∧ b < w.heap.size := by
  obtain ⟨hl, hj⟩ := List.getElem?_eq_some_iff.1 hk
  obtain ⟨b, off, e, hb, hc⟩ := h.at hl
  rw [hj] at hc
  exact ⟨b, off, e, hc, hb⟩
/-- While two places are joined up to where their ways meet: m falls. -/
def ClSt (cb cg cm : Nat) (w : World) (N : Nat) (M : List Ed) (R : List Nat) (U : List Int) (E0 : List (Int × Int)) (u v m : Nat) (W : World) : Prop :=
  ∃ E r, ClsAt cb cg cm W R.length r ∧ Turns cg cm w W ∧ Rg N M R U E r ∧ (∃ S, E = E0 ++ S) ∧ m = r u + r v
def CloseOut (cb cg cm : Nat) (w : World) (N : Nat) (M : List Ed) (R : List Nat) (U : List Int) (E0 : List (Int × Int)) (u v : Nat) (W : World) : Prop :=
  ∃ E r, ClsAt cb cg cm W R.length r ∧ Turns cg cm w W ∧ Rg N M R U E r ∧ (∃ S, E = E0 ++ S) ∧ r u = r v
set_option maxRecDepth 100000 in
set_option maxHeartbeats 4000000 in
theorem close_any (b g cb cg cm : Nat) (p : Option Addr) (rv uv : Value) (R : List Nat) (U P : List Int) (N : Nat) (M : List Ed) (_hN : N ≤ 4096) (hG : GoodN N M) (E0 : List (Int × Int)) (r0 : Nat → Nat) (u v x y t : Nat) (e : Ed) (w : World)
    (h : WkX b g p rv uv R U P w) (hf : ∀ k, WkO b g rv uv k → k ≠ cg ∧ k ≠ cm) (hc : ClsAt cb cg cm w R.length r0) (hW : Wk N M R U P) (hr : Rg N M R U E0 r0) (he : M[t]? = some e) (hu : R[u]? = some x) (hv : R[v]? = some y)
    (hxy : (e.1 = (x : Int) ∧ e.2.1 = (y : Int)) ∨ (e.1 = (y : Int) ∧ e.2.1 = (x : Int))) (n1 : U[u]? ≠ some (v : Int)) (n2 : U[v]? ≠ some (u : Int)) :
    Calls Tryz.prog 60 #[.pointer (some ⟨b, 0, none⟩), .pointer (some ⟨cb, 0, none⟩), .int .i64 (u : Int), .int .i64 (v : Int)] w fun e w' => e = .returned (.tuple #[]) ∧ CloseOut cb cg cm w N M R U E0 u v w' := by
  have hul := (List.getElem?_eq_some_iff.1 hu).1
  have hvl := (List.getElem?_eq_some_iff.1 hv).1
  have hRN := hW.few
  have hUl := hW.ul
  have HC : Hid (ClSt cb cg cm w N M R U E0 u v (r0 u + r0 v) w) := Lib.hid ⟨E0, r0, hc, Turns.refl _ _ _, hr, ⟨[], by simp⟩, rfl⟩
  have HK := Lib.hid (fun W (ht : Turns cg cm w W) => wk_turns h ht hf)
  have HS1 := Lib.hid (fun E r (hr : Rg N M R U E r) (hl : r v < r u) => close_step hG hW hr he hu hv hxy n1 n2 hl)
  have HS2 := Lib.hid (fun E r (hr : Rg N M R U E r) (hl : r u < r v) => close_step hG hW hr he hv hu (hxy.symm.imp (fun h => ⟨h.1, h.2⟩) (fun h => ⟨h.1, h.2⟩)) n2 n1 hl)
  clear h hf hc hW hr he hu hv hxy n1 n2 hG
  go_enter Tryz.func60, Tryz.ntmps60
  go_wp2_with fail
  go_loopw [] (fun wr => Hid (∃ m, ClSt cb cg cm w N M R U E0 u v m wr)) (fun wr => leastN (fun m => ClSt cb cg cm w N M R U E0 u v m wr))
  case atStart => exact Lib.hid ⟨_, HC.out⟩
  case round =>
    clear HC
    have HX := Lib.hid (leastN_spec hrel.out).1
    clear hrel
    generalize hm0 : leastN (fun m => ClSt cb cg cm w N M R U E0 u v m wr) = m0 at *
    have HM0 := Lib.hid hm0
    clear hm0
    obtain ⟨E, r, k1, k2, k3, k4, k5⟩ := HX.out
    have HCl := Lib.hid k1
    have HT := Lib.hid k2
    have HR := Lib.hid k3
    have HE := Lib.hid k4
    have HM := Lib.hid k5
    clear k1 k2 k3 k4 k5 HX
    go_wp2_with fail
    refine (same_any cb cg cm R.length r (u : Int) (v : Int) wr HCl.out).mono ?_
    rw [same_fit r hul hvl]
    rintro e w1 ⟨rfl, t1, l1⟩
    have HT1 := Lib.hid (HT.out.trans t1)
    have HC1 := Lib.hid l1
    clear t1 l1 HCl HT
    by_cases heq : r u = r v
    · have HO : Hid (CloseOut cb cg cm w N M R U E0 u v w1) := Lib.hid ⟨E, r, HC1.out, HT1.out, HR.out, HE.out, heq⟩
      rw [decide_eq_true heq]
      clear heq
      go_wp2
      go_end0
      exact ⟨rfl, HO.out⟩
    rw [decide_eq_false heq]
    go_wp2_with fail
    refine (of_any cb cg cm R.length r (u : Int) w1 HC1.out).mono ?_
    rw [of_fit' r hul]
    rintro e w2 ⟨rfl, t2, l2⟩
    have HT2 := Lib.hid (HT1.out.trans t2)
    have HC2 := Lib.hid l2
    clear t2 l2 HC1 HT1
    go_wp2_with fail
    refine (of_any cb cg cm R.length r (v : Int) w2 HC2.out).mono ?_
    rw [of_fit' r hvl]
    rintro e w3 ⟨rfl, t3, l3⟩
    have HT3 := Lib.hid (HT2.out.trans t3)
    have HC3 := Lib.hid l3
    clear t3 l3 HC2 HT2
    obtain ⟨rq, rc, uq, uc, e1, e2, ⟨-, c1, c2, c3⟩, -, ⟨hb, -, -, -⟩, -, hrU⟩ := (HK.out w3 HT3.out).cells
    subst e1
    subst e2
    have HN := Lib.hid HR.out.names
    rcases Nat.lt_or_gt_of_ne heq with hlt | hlt
    · obtain ⟨j, hj, hUj, hok⟩ := HS2.out E r HR.out hlt
      have hal : r v < U.length := (List.getElem?_eq_some_iff.1 hUj).1
      obtain ⟨Ub, Uo, e1, hck, hUb⟩ := reads_at hrU hUj
      subst e1
      have HOK := Lib.hid hok
      have HL := Lib.hid (join_less HN.out hvl hj)
      have HL2 := Lib.hid (join_le (n := R.length) r ((r v : Nat) : Int) (j : Int) u)
      have i1 : ((r v : Nat) : Int) < (U.length : Int) := by omega
      have i0 : (0 : Int) ≤ ((r v : Nat) : Int) := by omega
      have imx : max ((r u : Nat) : Int) ((r v : Nat) : Int) = ((r v : Nat) : Int) := by omega
      have imy : (if ((r v : Nat) : Int) > ((r u : Nat) : Int) then ((r v : Nat) : Int) else ((r u : Nat) : Int)) = ((r v : Nat) : Int) := by split <;> omega
      clear hok hrU hUj heq hlt hj
      generalize hA : r v = A at *
      have HA := Lib.hid hA
      clear hA
      go_wp2_with fail
      refine (join_any cb cg cm R.length r (A : Int) (j : Int) w3 HC3.out).mono ?_
      rintro e w4 ⟨rfl, t4, l4⟩
      have H4 : Hid (ClSt cb cg cm w N M R U E0 u v (joinZ R.length r (A : Int) (j : Int) u + joinZ R.length r (A : Int) (j : Int) v) w4) := Lib.hid ⟨_, _, l4, HT3.out.trans t4, HR.out.join HOK.out, by
        obtain ⟨S, hS⟩ := HE.out
        exact ⟨S ++ [((A : Int), (j : Int))], by rw [hS]; simp⟩, rfl⟩
      have HD : Hid (joinZ R.length r (A : Int) (j : Int) u + joinZ R.length r (A : Int) (j : Int) v < m0) := Lib.hid (by
        have h1 := HL.out
        have h2 := HL2.out
        have h3 := HM.out
        have h4 := HA.out
        omega)
      clear t4 l4 HC3 HT3 c1 c2 c3 hck
      go_wp2
      go_roundw
      case rel => exact Lib.hid ⟨_, H4.out⟩
      case measure =>
        show leastN _ < _
        exact Nat.lt_of_le_of_lt ((leastN_spec ⟨_, H4.out⟩).2 _ H4.out) HD.out
    · obtain ⟨j, hj, hUj, hok⟩ := HS1.out E r HR.out hlt
      have hal : r u < U.length := (List.getElem?_eq_some_iff.1 hUj).1
      obtain ⟨Ub, Uo, e1, hck, hUb⟩ := reads_at hrU hUj
      subst e1
      have HOK := Lib.hid hok
      have HL := Lib.hid (join_less HN.out hul hj)
      have HL2 := Lib.hid (join_le (n := R.length) r ((r u : Nat) : Int) (j : Int) v)
      have i1 : ((r u : Nat) : Int) < (U.length : Int) := by omega
      have i0 : (0 : Int) ≤ ((r u : Nat) : Int) := by omega
      have imx : max ((r u : Nat) : Int) ((r v : Nat) : Int) = ((r u : Nat) : Int) := by omega
      have imy : (if ((r v : Nat) : Int) > ((r u : Nat) : Int) then ((r v : Nat) : Int) else ((r u : Nat) : Int)) = ((r u : Nat) : Int) := by split <;> omega
      clear hok hrU hUj heq hlt hj
      generalize hA : r u = A at *
      have HA := Lib.hid hA
      clear hA
      go_wp2_with fail
      refine (join_any cb cg cm R.length r (A : Int) (j : Int) w3 HC3.out).mono ?_
      rintro e w4 ⟨rfl, t4, l4⟩
      have H4 : Hid (ClSt cb cg cm w N M R U E0 u v (joinZ R.length r (A : Int) (j : Int) u + joinZ R.length r (A : Int) (j : Int) v) w4) := Lib.hid ⟨_, _, l4, HT3.out.trans t4, HR.out.join HOK.out, by
        obtain ⟨S, hS⟩ := HE.out
        exact ⟨S ++ [((A : Int), (j : Int))], by rw [hS]; simp⟩, rfl⟩
      have HD : Hid (joinZ R.length r (A : Int) (j : Int) u + joinZ R.length r (A : Int) (j : Int) v < m0) := Lib.hid (by
        have h1 := HL.out
        have h2 := HL2.out
        have h3 := HM.out
        have h4 := HA.out
        omega)
      clear t4 l4 HC3 HT3 c1 c2 c3 hck
      go_wp2
      go_roundw
      case rel => exact Lib.hid ⟨_, H4.out⟩
      case measure =>
        show leastN _ < _
        exact Nat.lt_of_le_of_lt ((leastN_spec ⟨_, H4.out⟩).2 _ H4.out) HD.out
end Go.Proofs.YtmohfmhkhldhnaaGreat.Cm
