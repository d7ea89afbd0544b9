/- Texts that the laws of this seat stand on, part 26. -/
import Derived.Test.YtceejjgmepaonaaGreatDoorPk25
import Derived.Test.YtceejjgmepaonaaGreatDoorPk4
/- The document's matrix of least cuts (layer 22). -/
namespace Go.Proofs.YtceejjgmepaonaaGreatDoor.Br
open Go.RowKit Go.ChangeShapes EdPure NtPure CutPure SdPure BrPure Cm Sd
/-- What the matrix tells of two. -/
def mxW (M : List Ed) (n : Nat) (s t : Nat) : Int := if s = t then 0 else wB (pairB M n (s : Int) (t : Int) (allS n))
def mxRow (M : List Ed) (n s : Nat) : List Int := (List.range n).map (mxW M n s)
def mxL (M : List Ed) (n : Nat) : Nat → List (List Int)
  | 0 => []
  | s + 1 => mxL M n s ++ [mxRow M n s]
theorem mxL_len (M : List Ed) (n : Nat) : ∀ s, (mxL M n s).length = s
  | 0 => rfl
  | s + 1 => by show (mxL M n s ++ [mxRow M n s]).length = _; rw [List.length_append, mxL_len M n s]; rfl
/-- The row while it is filled. -/
def mxC (M : List Ed) (n s k : Nat) : List Value := ((List.range n).map fun t : Nat => if t < k then mxW M n s t else 0).map encZ
theorem mxC_len (M : List Ed) (n s k : Nat) : (mxC M n s k).length = n := by unfold mxC; simp
theorem mxC_at (M : List Ed) (n s k : Nat) {t : Nat} (h : t < (mxC M n s k).length) : (mxC M n s k)[t] = .int .i64 (if t < k then mxW M n s t else 0) := by
  unfold mxC encZ
  simp
theorem mxC_zero (M : List Ed) (n s : Nat) : mxC M n s 0 = List.replicate n (.int .i64 0) := by
  refine List.ext_getElem (by rw [mxC_len]; simp) fun i h1 h2 => ?_
  rw [mxC_at]
  simp
theorem mxC_next (M : List Ed) (n s k : Nat) : (mxC M n s k).set k (.int .i64 (mxW M n s k)) = mxC M n s (k + 1) := by
  refine List.ext_getElem (by rw [List.length_set, mxC_len, mxC_len]) fun i h1 h2 => ?_
  rw [mxC_at]
  by_cases e : i = k
  · subst e
    rw [List.getElem_set_self, if_pos (by omega)]
  · rw [List.getElem_set_ne (fun x => e x.symm), mxC_at]
    by_cases h : i < k
    · rw [if_pos h, if_pos (by omega)]
    · rw [if_neg h, if_neg (by omega)]
theorem mxC_skip (M : List Ed) (n s : Nat) : mxC M n s (s + 1) = mxC M n s s := by
  refine List.ext_getElem (by rw [mxC_len, mxC_len]) fun i h1 h2 => ?_
  rw [mxC_at, mxC_at]
  by_cases e : i = s
  · subst e
    rw [if_pos (by omega), if_neg (by omega)]
    unfold mxW
    rw [if_pos rfl]
  · by_cases h : i < s
    · rw [if_pos h, if_pos (by omega)]
    · rw [if_neg h, if_neg (by omega)]
theorem mxC_all (M : List Ed) (n s : Nat) : mxC M n s n = (mxRow M n s).map encZ := by
  unfold mxC mxRow
  congr 1
  refine List.map_congr_left fun t ht => ?_
  rw [if_pos (List.mem_range.1 ht)]
/-- Rows of int64 that are gathered. -/
def MxAt (w : World) (s : Value) (vs : List Value) (L : List (List Int)) (wr : World) : Prop :=
  Below w.heap.size w wr ∧ wr.ownsRow w.heap.size 108 1 s L.length vs ∧ vs.length = L.length ∧
  ∀ (i : Nat) v l, vs[i]? = some v → L[i]? = some l → ∃ q c, v = .slice q l.length c ∧ ReadsL encZ wr.heap.size wr q l ∧ ∀ z, q = some z → w.heap.size ≤ z.block ∧ z.block < wr.heap.size ∧ s.ownBlock ≠ some z.block
theorem MxAt.start (w : World) : MxAt w (.slice none 0 0) [] [] w := ⟨Below.refl _ _, World.ownsRow_nil _ _ _ _, rfl, fun i v l h => by simp at h⟩
theorem MxAt.keep {w wr w' : World} {s : Value} {vs : List Value} {L : List (List Int)} (h : MxAt w s vs L wr) (hb : Below wr.heap.size wr w') : MxAt w s vs L w' :=
  ⟨h.1.trans (hb.mono h.1.size), owns_below h.2.1 hb, h.2.2.1, fun i v l hv hl => by
    obtain ⟨q, c, e, hr, hq⟩ := h.2.2.2 i v l hv hl
    exact ⟨q, c, e, hr.over hb (Nat.le_refl _), fun z hz => ⟨(hq z hz).1, Nat.lt_of_lt_of_le (hq z hz).2.1 hb.size, (hq z hz).2.2⟩⟩⟩
theorem MxAt.push {w wr w1 w' : World} {s s' : Value} {vs : List Value} {L : List (List Int)} {g c : Nat} {l : List Int} (h : MxAt w s vs L wr) (hb : Below wr.heap.size wr w1) (hr : ReadsL encZ w1.heap.size w1 (some ⟨g, 0, none⟩) l) (hq : wr.heap.size ≤ g) (hg1 : g < w1.heap.size)
    (hown : w'.ownsRow w.heap.size 108 1 s' (L.length + 1) (vs ++ [.slice (some ⟨g, 0, none⟩) l.length c])) (hg : w1.grownBy w' s.ownBlock) (hat : s'.ownBlock = s.ownBlock ∨ s'.ownBlock = some w1.heap.size) : MxAt w s' (vs ++ [.slice (some ⟨g, 0, none⟩) l.length c]) (L ++ [l]) w' := by
  have h' := h.keep hb
  obtain ⟨h1, h2, h3, h4⟩ := h'
  have hz := h.1.size
  have hsl := fun k hk => h.2.1.lt k hk
  have keepR : ∀ (q : Option Addr) (r : List Int), ReadsL encZ w1.heap.size w1 q r → (∀ z, q = some z → s.ownBlock ≠ some z.block) → ReadsL encZ w'.heap.size w' q r := fun q r hr hne => by
    rcases hr with e | ⟨b, off, rfl, hN, hc⟩
    · exact Or.inl e
    · refine Or.inr ⟨b, off, rfl, Nat.lt_of_lt_of_le hN hg.size, fun i hi => ?_⟩
      exact (World.cell?_of_block (hg.block b hN fun e => hne _ rfl e.symm)).trans (hc i hi)
  have newB : ∀ (q : Option Addr), (∀ z, q = some z → s.ownBlock ≠ some z.block) → (∀ z, q = some z → z.block < w1.heap.size) → ∀ z, q = some z → s'.ownBlock ≠ some z.block := fun q h5 h6 z hz => by
    rcases hat with e | e
    · rw [e]; exact h5 z hz
    · rw [e]; intro e2; have := Option.some.inj e2; have := h6 z hz; omega
  refine ⟨h1.grown hg h1.size fun k hk => (h2.lt k hk).1, by rw [List.length_append]; exact hown, by rw [List.length_append, List.length_append, h3]; rfl, fun i v r hv hr' => ?_⟩
  rcases Nat.lt_or_ge i vs.length with e | e
  · rw [List.getElem?_append_left e] at hv
    rw [List.getElem?_append_left (by omega)] at hr'
    obtain ⟨q, c', e1, e2, e3⟩ := h4 i v r hv hr'
    exact ⟨q, c', e1, keepR q r e2 fun z hz => (e3 z hz).2.2, fun z hz => ⟨(e3 z hz).1, Nat.lt_of_lt_of_le (e3 z hz).2.1 hg.size, newB q (fun z hz => (e3 z hz).2.2) (fun z hz => (e3 z hz).2.1) z hz⟩⟩
  · rw [List.getElem?_append_right e] at hv
    rw [List.getElem?_append_right (by omega)] at hr'
    have hi := (List.getElem?_eq_some_iff.1 hv).1
    have e0 : i - vs.length = 0 := by simpa using hi
    rw [e0] at hv
    rw [← h3, e0] at hr'
    simp at hv hr'
    subst hv; subst hr'
    have hne : ∀ z, (some ⟨g, 0, none⟩ : Option Addr) = some z → s.ownBlock ≠ some z.block := fun z hz e => by
      cases hz
      have := (hsl g e).2
      omega
    exact ⟨_, c, rfl, keepR _ _ hr hne, fun z hz => ⟨by cases hz; show w.heap.size ≤ g; omega, by cases hz; exact Nat.lt_of_lt_of_le hg1 hg.size, newB _ hne (fun z hz => by cases hz; exact hg1) z hz⟩⟩
theorem MxAt.rows {w wr : World} {s : Value} {vs : List Value} {L : List (List Int)} (h : MxAt w s vs L wr) : ∃ a c, s = .slice a L.length c ∧ RowsAt w.heap.size wr a L := by
  obtain ⟨h1, h2, h3, h4⟩ := h
  by_cases h0 : 0 < L.length
  · have h2' := h2
    have hlt := h2.lt
    rcases h2.2 with ⟨-, e⟩ | ⟨g, cap, cur, rfl, hg, -⟩
    · omega
    · refine ⟨_, cap, rfl, Or.inr ⟨g, 0, rfl, hg, (hlt g rfl).2, fun i l hl => ?_⟩⟩
      have hi := (List.getElem?_eq_some_iff.1 hl).1
      have hv : vs[i]? = some vs[i] := List.getElem?_eq_getElem (by omega)
      obtain ⟨q, c, e, hr, hq⟩ := h4 i _ l hv hl
      refine ⟨q, c, ?_, hr, fun z hz => (hq z hz).1⟩
      rw [Nat.zero_add, h2'.cellAt i (by omega), hv, e]
  · have e : L = [] := List.length_eq_zero_iff.1 (by omega)
    subst e
    rcases h2.2 with ⟨rfl, -⟩ | ⟨g, cap, cur, rfl, -⟩
    · exact ⟨none, 0, rfl, Or.inl rfl⟩
    · exact ⟨_, cap, rfl, Or.inl rfl⟩
theorem info_rows64 : (Tryz.prog.info? 108).map (fun i => (i.zero, i.size, i.bytes)) = some (some (.slice none 0 0), 1, 24) := by kernel_rfl
@[go_sem] theorem got_c (x y z : Value) (w : World) : (Instr.field 39 (.agg #[x, y, z]) 0).run Tryz.prog w = .ok (.agg #[x, y]) w := by kernel_rfl
@[go_sem] theorem cut_w (x y : Value) (w : World) : (Instr.field 30 (.agg #[x, y]) 0).run Tryz.prog w = .ok x w := by kernel_rfl
/-- A row in block G while it is filled, behind the world V. -/
def MxIn (V : World) (M : List Ed) (n s k : Nat) (wr : World) : Prop := Below V.heap.size V wr ∧ RowIs V.heap.size wr (mxC M n s k) ∧ V.heap.size < wr.heap.size
theorem MxIn.keep {V wr w' : World} {M : List Ed} {n s k : Nat} (h : MxIn V M n s k wr) (hb : Below wr.heap.size wr w') : MxIn V M n s k w' :=
  ⟨h.1.trans (hb.mono h.1.size), h.2.1.on hb h.2.2, Nat.lt_of_lt_of_le h.2.2 hb.size⟩
theorem MxIn.put {V wr : World} {M : List Ed} {n s k : Nat} (h : MxIn V M n s k wr) (hk : k < n) : MxIn V M n s (k + 1) (wr.setCell ⟨V.heap.size, k, none⟩ (.int .i64 (mxW M n s k))) :=
  ⟨h.1.setCell (p := ⟨V.heap.size, k, none⟩) (Nat.le_refl _) _, by rw [← mxC_next]; exact h.2.1.set (by rw [mxC_len]; exact hk) _, by simpa using h.2.2⟩
end Go.Proofs.YtceejjgmepaonaaGreatDoor.Br
/- What the program must answer (layer 22). -/
namespace Go.Proofs.YtceejjgmepaonaaGreatDoor.Br
open Go.RowKit Go.ChangeShapes EdPure NtPure CutPure SdPure BrPure Cm Sd
theorem small_zero {N : Nat} : smallE (N : Int) = 0 ↔ 2 ≤ N ∧ N ≤ 20 := by
  unfold smallE
  split
  · omega
  · split <;> omega
def lsW (N : Nat) (M : List Ed) : Int := if smallE (N : Int) = 0 then wB (leastB M (allS N)) else 0
def lsS (N : Nat) (M : List Ed) : List Int := if smallE (N : Int) = 0 then sB (leastB M (allS N)) else []
def lsC (N : Nat) (M : List Ed) : Nat := if smallE (N : Int) = 0 then (pickW M (wB (leastB M (allS N))) (allS N)).length else 0
def lsA (N : Nat) (M : List Ed) (x : Int) : List (List Int) := if smallE (N : Int) = 0 then pickW M x (allS N) else []
def prE (N : Nat) (s t : Int) : Int := if bothE (N : Int) s t = 0 then (if 20 < N then 3 else 0) else bothE (N : Int) s t
def prW (N : Nat) (M : List Ed) (s t : Int) : Int := if prE N s t = 0 then wB (pairB M N s t (allS N)) else 0
def prS (N : Nat) (M : List Ed) (s t : Int) : List Int := if prE N s t = 0 then sB (pairB M N s t (allS N)) else []
def mxE (N : Nat) : Int := if 20 < N then 3 else 0
def mxM (N : Nat) (M : List Ed) : List (List Int) := if 20 < N then [] else mxL M N N
/-- Rows, and why there are none. -/
def RowsE (L : List (List Int)) (z : Int) (w : World) (e : Ending) (w' : World) : Prop := Below w.heap.size w w' ∧ ∃ q d M0, e = .returned (.tuple #[.slice q L.length d, .int .i64 z]) ∧ RowsAt M0 w' q L
/-- Rows that were told. -/
def RowsTold (q : Option Addr) (L : List (List Int)) (W : World) : Prop := ∃ M0, RowsAt M0 W q L
theorem RowsTold.keep {q : Option Addr} {L : List (List Int)} {W W' : World} (h : RowsTold q L W) (hb : Below W.heap.size W W') : RowsTold q L W' := by
  obtain ⟨M0, h⟩ := h
  exact ⟨M0, h.keep hb⟩
theorem both_zero {N : Nat} {s t : Int} (h : bothE (N : Int) s t = 0) : (0 ≤ s ∧ s < N) ∧ (0 ≤ t ∧ t < N) ∧ s ≠ t := by
  unfold bothE at h
  split at h
  · next h1 =>
    split at h
    · cases h
    · next h2 => exact ⟨⟨h1.1, h1.2.1⟩, ⟨h1.2.2.1, h1.2.2.2⟩, h2⟩
  · cases h
/-- The least side of all is a side, and weighs what is told. -/
theorem least_side {N : Nat} (h2 : 2 ≤ N) {M : List Ed} : ∃ b x, leastB M (allS N) = some (b, x) ∧ OkB M (some (b, x)) (allS N) ∧ chkS (N : Int) x = 0 ∧ cutW M (inS x) = b := by
  have h := leastB_ok M (allS N)
  cases hb : leastB M (allS N) with
  | none =>
    rw [hb] at h
    exact absurd h (all_some h2)
  | some p =>
    obtain ⟨b, x⟩ := p
    rw [hb] at h
    exact ⟨b, x, rfl, h, (all_right h.1).1, h.2.1.symm⟩
theorem all_mem_len {n : Nat} (h : n ≤ 20) {l : List Int} (hl : l ∈ allS n) : l.length ≤ 20 := by
  obtain ⟨k, hk, rfl⟩ := List.mem_iff_getElem.1 hl
  exact all_short h hk
theorem least_len {N : Nat} (h2 : 2 ≤ N) (h20 : N ≤ 20) (M : List Ed) : (sB (leastB M (allS N))).length ≤ 20 := by
  obtain ⟨b, x, e, h, -⟩ := least_side (M := M) h2
  rw [e]
  exact all_mem_len h20 h.1
theorem pick_few {N : Nat} (h20 : N ≤ 20) (M : List Ed) (x : Int) : (pickW M x (allS N)).length ≤ 1000000 ∧ ∀ l ∈ pickW M x (allS N), l.length ≤ 1000000 := by
  refine ⟨?_, fun l hl => ?_⟩
  · have h1 := List.length_filter_le (fun s => decide (cutW M (inS s) = x)) (allS N)
    have h2 := all_few h20
    unfold pickW
    omega
  · have := all_mem_len h20 (List.mem_filter.1 hl).1
    omega
theorem stepP_len {M : List Ed} {n : Nat} {s t : Int} {best : Option (Int × List Int)} {x : List Int} (hn : n ≤ 20) (hx : x.length ≤ 20) (h : (sB best).length ≤ 20) : (sB (stepP M n s t best x)).length ≤ 20 := by
  have ho : (orient n s x).length ≤ 20 := by
    unfold orient
    split
    · exact hx
    · exact Nat.le_trans (oth_len x n) hn
  unfold stepP
  split
  · exact h
  · cases best with
    | none => exact ho
    | some p =>
      obtain ⟨b, c⟩ := p
      show (sB (if _ then _ else _)).length ≤ 20
      split
      · exact ho
      · split
        · exact Nat.le_trans (List.length_filter_le _ _) ho
        · exact h
theorem pairB_len {M : List Ed} {n : Nat} {s t : Int} (hn : n ≤ 20) (L : List (List Int)) (hL : ∀ l ∈ L, l.length ≤ 20) : (sB (pairB M n s t L)).length ≤ 20 := by
  have : ∀ k, k ≤ L.length → (sB (pairB M n s t (L.take k))).length ≤ 20 := by
    intro k
    induction k with
    | zero => intro _; exact Nat.zero_le _
    | succ k ih =>
      intro hk
      rw [pairB_take (by omega)]
      exact stepP_len hn (hL _ (List.getElem_mem _)) (ih (by omega))
  have h := this L.length (Nat.le_refl _)
  rwa [List.take_length] at h
theorem prS_len (N : Nat) (M : List Ed) (s t : Int) : (prS N M s t).length ≤ 20 := by
  unfold prS
  split
  · next h =>
    have h20 : N ≤ 20 := by
      unfold prE at h
      split at h
      · split at h
        · cases h
        · omega
      · next h1 => exact absurd h h1
    exact pairB_len h20 _ fun l hl => all_mem_len h20 hl
  · exact Nat.zero_le _
theorem mxL_few (M : List Ed) {n : Nat} (hn : n ≤ 20) : (mxL M n n).length ≤ 1000000 ∧ ∀ l ∈ mxL M n n, l.length ≤ 1000000 := by
  refine ⟨by rw [mxL_len]; omega, ?_⟩
  have : ∀ s, ∀ l ∈ mxL M n s, l.length ≤ 1000000 := by
    intro s
    induction s with
    | zero => intro l hl; simp [mxL] at hl
    | succ s ih =>
      intro l hl
      rcases List.mem_append.1 hl with h | h
      · exact ih l h
      · rw [List.mem_singleton.1 h]
        unfold mxRow
        simp
        omega
  exact this n
theorem refLeastU_any (N : Nat) (a : Option Addr) (c : Nat) (M : List Ed) (hm : M.length ≤ 100000) (hn : NonNeg M) (ha : allW M ≤ 2251799813685248) (w : World) (hR : ReadsE w.heap.size w a M) :
    Calls Tryz.prog 8 #[.agg #[.int .i64 (N : Int), .slice a M.length c]] w fun e w' => GotO (lsW N M) (lsS N M) (smallE (N : Int)) w e w' := by
  unfold lsW lsS
  by_cases h : smallE (N : Int) = 0
  · rw [if_pos h, if_pos h, h]
    obtain ⟨h2, h20⟩ := small_zero.1 h
    exact refLeast_any N h20 h2 a c M hm hn ha w hR
  · rw [if_neg h, if_neg h]
    exact refLeastNo_any N a c M h w hR
theorem rows_told {L : List (List Int)} {w : World} {e : Ending} {w' : World} (h : RowsO L w e w') : Below w.heap.size w w' ∧ ∃ q d, e = .returned (.slice q L.length d) ∧ RowsTold q L w' := by
  obtain ⟨hb, q, d, he, hr⟩ := h
  exact ⟨hb, q, d, he, _, hr⟩
end Go.Proofs.YtceejjgmepaonaaGreatDoor.Br
/- Sets of numbers as bits in bytes, and back (layer 45). No program in sight. -/
namespace Go.Proofs.YtceejjgmepaonaaGreatDoor.CdPure
open SdPure
/-- Two rising lists of the same numbers are one. -/
theorem rise_one : ∀ {a b : List Int}, a.Pairwise (· < ·) → b.Pairwise (· < ·) → (∀ v, v ∈ a ↔ v ∈ b) → a = b
  | [], [], _, _, _ => rfl
  | [], y :: b, _, _, h => by have := (h y).2 (by simp); simp at this
  | x :: a, [], _, _, h => by have := (h x).1 (by simp); simp at this
  | x :: a, y :: b, h1, h2, h => by
    rw [List.pairwise_cons] at h1 h2
    have e : x = y := by
      have m1 := (h x).1 (by simp)
      have m2 := (h y).2 (by simp)
      simp only [List.mem_cons] at m1 m2
      rcases m1 with m1 | m1
      · exact m1
      · rcases m2 with m2 | m2
        · exact m2.symm
        · have := h1.1 y m2; have := h2.1 x m1; omega
    subst e
    rw [rise_one h1.2 h2.2 (fun v => by
      constructor
      · intro hv
        have := (h v).1 (by simp [hv])
        simp only [List.mem_cons] at this
        rcases this with rfl | this
        · have := h1.1 v hv; omega
        · exact this
      · intro hv
        have := (h v).2 (by simp [hv])
        simp only [List.mem_cons] at this
        rcases this with rfl | this
        · have := h2.1 v hv; omega
        · exact this)]
/-- Those below k of which S tells, in order. -/
def gatS (S : Nat → Bool) : Nat → List Int
  | 0 => []
  | k + 1 => gatS S k ++ (if S k = true then [(k : Int)] else [])
theorem gat_mem (S : Nat → Bool) (v : Int) : ∀ k : Nat, v ∈ gatS S k ↔ ∃ j : Nat, j < k ∧ v = (j : Int) ∧ S j = true
  | 0 => by simp [gatS]
  | k + 1 => by
    unfold gatS
    rw [List.mem_append, gat_mem S v k]
    constructor
    · rintro (⟨j, h1, h2, h3⟩ | h)
      · exact ⟨j, by omega, h2, h3⟩
      · split at h
        · next hb => simp only [List.mem_singleton] at h; exact ⟨k, by omega, h, hb⟩
        · simp at h
    · rintro ⟨j, h1, h2, h3⟩
      by_cases hj : j = k
      · subst hj; right; rw [if_pos h3]; simp [h2]
      · left; exact ⟨j, by omega, h2, h3⟩
theorem gat_rises (S : Nat → Bool) : ∀ k : Nat, (gatS S k).Pairwise (· < ·)
  | 0 => List.Pairwise.nil
  | k + 1 => by
    unfold gatS
    rw [List.pairwise_append]
    refine ⟨gat_rises S k, by split <;> simp, fun a ha b hb => ?_⟩
    obtain ⟨j, h1, h2, -⟩ := (gat_mem S a k).1 ha
    split at hb
    · simp only [List.mem_singleton] at hb; omega
    · simp at hb
theorem gat_len (S : Nat → Bool) : ∀ k : Nat, (gatS S k).length ≤ k
  | 0 => Nat.le_refl _
  | k + 1 => by
    have := gat_len S k
    unfold gatS
    rw [List.length_append]
    split <;> simp <;> omega
theorem gat_back {n k : Nat} {l : List Int} (h : RightS (n : Int) l) (hk : n ≤ k) {S : Nat → Bool} (hS : ∀ j, j < k → S j = inS l (j : Int)) : gatS S k = l := by
  refine rise_one (gat_rises S k) h.2 fun v => ?_
  rw [gat_mem]
  constructor
  · rintro ⟨j, h1, rfl, h3⟩
    rw [hS j h1] at h3
    exact inS_iff.1 h3
  · intro hv
    have hr := h.1 v hv
    refine ⟨v.toNat, by omega, by omega, ?_⟩
    rw [hS _ (by omega), show ((v.toNat : Nat) : Int) = v by omega]
    exact inS_iff.2 hv
/-- Of bits that are gathered all are below n, if none behind n is set. -/
theorem gat_right {n k : Nat} {S : Nat → Bool} : RightS (n : Int) (gatS S k) ↔ ∀ j, n ≤ j → j < k → S j = false := by
  constructor
  · intro h j h1 h2
    cases e : S j with
    | false => rfl
    | true => have := h.1 (j : Int) ((gat_mem S _ k).2 ⟨j, h2, rfl, e⟩); omega
  · intro h
    refine ⟨fun v hv => ?_, gat_rises S k⟩
    obtain ⟨j, h1, rfl, h3⟩ := (gat_mem S v k).1 hv
    refine ⟨by omega, ?_⟩
    apply Classical.byContradiction
    intro hc
    rw [h j (by omega) h1] at h3
    cases h3
/-- The byte of a place: bits 0 to i of it. -/
def byteV (l : List Int) (p : Nat) : Nat → Nat
  | 0 => 0
  | i + 1 => byteV l p i + (if inS l ((8 * p + i : Nat) : Int) = true then 2 ^ i else 0)
theorem byte_lt (l : List Int) (p : Nat) : ∀ i : Nat, byteV l p i < 2 ^ i
  | 0 => by simp [byteV]
  | i + 1 => by
    have := byte_lt l p i
    unfold byteV
    rw [Nat.pow_succ]
    split <;> omega
theorem byte_bit (l : List Int) (p : Nat) : ∀ (i j : Nat), j < i → (byteV l p i).testBit j = inS l ((8 * p + j : Nat) : Int)
  | 0, j, h => by omega
  | i + 1, j, h => by
    have hlt := byte_lt l p i
    unfold byteV
    by_cases hj : j = i
    · subst hj
      cases e : inS l ((8 * p + j : Nat) : Int) with
      | true => rw [if_pos rfl, Nat.add_comm, Nat.testBit_two_pow_add_eq, Nat.testBit_lt_two_pow hlt]; rfl
      | false => rw [if_neg (by decide), Nat.add_zero, Nat.testBit_lt_two_pow hlt]
    · have ih := byte_bit l p i j (by omega)
      split
      · rw [Nat.add_comm, Nat.testBit_two_pow_add_gt (by omega), ih]
      · rw [Nat.add_zero, ih]
theorem byte_empty (p : Nat) : ∀ i : Nat, byteV [] p i = 0
  | 0 => rfl
  | i + 1 => by unfold byteV; rw [byte_empty p i]; rfl
/-- One more number, that is none of them. -/
theorem byte_snoc {l : List Int} {v : Nat} (hv : inS l (v : Int) = false) (p : Nat) : ∀ i : Nat, byteV (l ++ [(v : Int)]) p i = byteV l p i + (if 8 * p ≤ v ∧ v < 8 * p + i then 2 ^ (v - 8 * p) else 0)
  | 0 => by simp [byteV]; intro h1 h2; omega
  | i + 1 => by
    have ih := byte_snoc hv p i
    have hs : inS (l ++ [(v : Int)]) ((8 * p + i : Nat) : Int) = (inS l ((8 * p + i : Nat) : Int) || decide (((8 * p + i : Nat) : Int) = (v : Int))) := by unfold inS; simp
    unfold byteV
    rw [ih, hs]
    by_cases hc : 8 * p + i = v
    · subst hc
      rw [hv]
      simp
    · have d : decide (((8 * p + i : Nat) : Int) = (v : Int)) = false := decide_eq_false (by omega)
      rw [d, Bool.or_false]
      by_cases h1 : 8 * p ≤ v ∧ v < 8 * p + i
      · rw [if_pos h1, if_pos (by omega : 8 * p ≤ v ∧ v < 8 * p + (i + 1))]; omega
      · rw [if_neg h1, if_neg (by omega : ¬ (8 * p ≤ v ∧ v < 8 * p + (i + 1)))]; omega
/-- All eight bits: one more number's byte. -/
theorem byte_step {l : List Int} {v : Nat} (hv : inS l (v : Int) = false) (p : Nat) : byteV (l ++ [(v : Int)]) p 8 = byteV l p 8 + (if v / 8 = p then 2 ^ (v % 8) else 0) := by
  rw [byte_snoc hv p 8]
  by_cases h : v / 8 = p
  · rw [if_pos h, if_pos (by omega), show v - 8 * p = v % 8 by omega]
  · rw [if_neg h, if_neg (by omega)]
/-- A set's bytes. -/
def setB (n : Nat) (l : List Int) : List Int := (List.range ((n + 7) / 8)).map (fun p => ((byteV l p 8 : Nat) : Int))
theorem set_len (n : Nat) (l : List Int) : (setB n l).length = (n + 7) / 8 := by unfold setB; simp
theorem set_at (n : Nat) (l : List Int) {p : Nat} (h : p < (n + 7) / 8) : (setB n l)[p]? = some ((byteV l p 8 : Nat) : Int) := by
  unfold setB
  rw [List.getElem?_map, List.getElem?_range h]
  rfl
/-- Read as they were. -/
theorem set_back {n : Nat} {l : List Int} (h : RightS (n : Int) l) : gatS (fun v => (byteV l (v / 8) 8).testBit (v % 8)) (8 * ((n + 7) / 8)) = l := by
  refine gat_back h (by omega) fun j hj => ?_
  rw [byte_bit l (j / 8) 8 (j % 8) (by omega)]
  congr 2
  omega
end Go.Proofs.YtceejjgmepaonaaGreatDoor.CdPure
