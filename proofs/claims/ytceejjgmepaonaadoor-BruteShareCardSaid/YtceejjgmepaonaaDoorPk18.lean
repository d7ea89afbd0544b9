/- Texts that the laws of this seat stand on, part 18. -/
import Derived.Test.YtceejjgmepaonaaDoorPk1
import Derived.Test.YtceejjgmepaonaaDoorPk4
import Derived.Test.YtceejjgmepaonaaDoorPk17
import Derived.Test.YtceejjgmepaonaaDoorPk7
import Derived.Test.YtceejjgmepaonaaDoorPk10
import Derived.Maps.AppendAt
import Derived.Laws.OwnMore
/- Contracts of package num's Add, Put, Value, at every argument (cut out of XNumCode: a later stage that neither subtracts nor multiplies takes this text). -/
namespace Go.Proofs.YtceejjgmepaonaaDoor
open Go.RowKit Go.ChangeShapes NumPure
theorem add_any (a b : Int) (ha : -9223372036854775808 ≤ a ∧ a ≤ 9223372036854775807) (hb : -9223372036854775808 ≤ b ∧ b ≤ 9223372036854775807) (w : World) :
    Calls Tryd.prog 65 #[.int .i64 a, .int .i64 b] w fun e w' => e = .returned (.tuple #[.int .i64 (cut (a + b)), .bool (fitsB (a + b))]) ∧ w = w' := by
  obtain ⟨ha1, ha2⟩ := ha
  obtain ⟨hb1, hb2⟩ := hb
  by_cases h : -9223372036854775808 ≤ a + b ∧ a + b ≤ 9223372036854775807
  · have t := add_yes a b ⟨ha1, ha2⟩ ⟨hb1, hb2⟩ h
    have e1 := Lib.hid (cut_in h)
    have e2 := Lib.hid ((fits_iff _).2 h)
    obtain ⟨h1, h2⟩ := h
    go_enter Tryd.func65, Tryd.ntmps65
    go_wp2
    go_ret2
    exact ⟨ret_ib e1.out.symm e2.out.symm, rfl⟩
  · have t := add_no a b ⟨ha1, ha2⟩ ⟨hb1, hb2⟩ h
    have e1 := Lib.hid (cut_out h)
    have e2 := Lib.hid ((fits_not _).2 h)
    have hh := Lib.hid h
    clear h
    go_enter Tryd.func65, Tryd.ntmps65
    go_wp2
    go_ret2
    exact ⟨ret_ib e1.out.symm e2.out.symm, rfl⟩
/-- The gathering sum at block N. -/
def AccAt (N : Nat) (w : World) (p : Int × Bool) : Prop :=
  w.cell? ⟨N, 0, none⟩ = some (.int .i64 p.1) ∧ w.cell? ⟨N, 1, none⟩ = some (.bool (!p.2)) ∧ w.frozen? ⟨N, 0, none⟩ = false ∧ w.frozen? ⟨N, 1, none⟩ = false
theorem AccAt.set {N : Nat} {w : World} {p : Int × Bool} (h : AccAt N w p) (q : Int × Bool) : AccAt N ((w.setCell ⟨N, 0, none⟩ (.int .i64 q.1)).setCell ⟨N, 1, none⟩ (.bool (!q.2))) q := by
  obtain ⟨h0, h1, f0, f1⟩ := h
  have h1' : (w.setCell ⟨N, 0, none⟩ (.int .i64 q.1)).cell? ⟨N, 1, none⟩ = some (.bool (!p.2)) := by
    exact (World.cell?_setCell_other w ⟨N, 0, none⟩ ⟨N, 1, none⟩ _ (by simp)).trans h1
  refine ⟨?_, World.cell?_setCell_same _ _ _ h1', ?_, ?_⟩
  · exact (World.cell?_setCell_other _ ⟨N, 1, none⟩ ⟨N, 0, none⟩ _ (by simp)).trans (World.cell?_setCell_same _ _ _ h0)
  · simpa using f0
  · simpa using f1
theorem AccAt.on {M : Nat} {w w' : World} {p : Int × Bool} (h : AccAt M w p) (hb : Below (M + 1) w w') : AccAt M w' p := by
  obtain ⟨h0, h1, f0, f1⟩ := h
  exact ⟨(hb.cell (by simp)).trans h0, (hb.cell (by simp)).trans h1, (hb.frozen (by simp)).trans f0, (hb.frozen (by simp)).trans f1⟩
theorem AccAt.lt {M : Nat} {w : World} {p : Int × Bool} (h : AccAt M w p) : M < w.heap.size := World.block_lt_of_cell? w _ h.1
theorem accAt_new (w : World) (t : TypeId) : AccAt w.heap.size (w.alloc (.cells #[.int .i64 0, .bool false] t)) (0, true) := by
  refine ⟨?_, ?_, ?_, ?_⟩ <;> simp
end Go.Proofs.YtceejjgmepaonaaDoor
/- Contracts of Checks and Total. -/
namespace Go.Proofs.YtceejjgmepaonaaDoor
open Go.RowKit Go.ChangeShapes EdPure NumPure
/-- Why the first one that can't be is none, and its place. -/
def chkL (n : Int) : List Ed → Nat → Int × Int
  | [], _ => (0, 0)
  | e :: r, i => if chkE n e = 0 then chkL n r (i + 1) else (chkE n e, (i : Int))
theorem chk_hit (n : Int) : ∀ (l : List Ed) (i k : Nat) (hk : k < l.length), chkE n l[k] ≠ 0 → (∀ j (hj : j < l.length), j < k → chkE n l[j] = 0) → chkL n l i = (chkE n l[k], ((i + k : Nat) : Int))
  | [], i, k, hk, _, _ => by simp at hk
  | e :: r, i, 0, hk, h, _ => by
    have h' : chkE n e ≠ 0 := h
    unfold chkL
    rw [if_neg h']
    rfl
  | e :: r, i, k + 1, hk, h, hn => by
    unfold chkL
    have h0 : chkE n e = 0 := hn 0 (by simp) (by omega)
    rw [if_pos h0]
    rw [chk_hit n r (i + 1) k (by simpa using hk) h (fun j hj hlt => hn (j + 1) (by simpa using hj) (by omega))]
    simp only [List.getElem_cons_succ, Prod.mk.injEq, true_and]
    omega
theorem chk_miss (n : Int) : ∀ (l : List Ed) (i : Nat), (∀ j (hj : j < l.length), chkE n l[j] = 0) → chkL n l i = (0, 0)
  | [], _, _ => rfl
  | e :: r, i, h => by
    unfold chkL
    have h0 : chkE n e = 0 := h 0 (by simp)
    rw [if_pos h0]
    exact chk_miss n r (i + 1) fun j hj => h (j + 1) (by simpa using hj)
theorem ret_iiE {a b c d : Int} (h1 : a = b) (h2 : c = d) : Ending.returned (.tuple #[.int .i64 a, .int .i64 c]) = .returned (.tuple #[.int .i64 b, .int .i64 d]) := by rw [h1, h2]
def ChkRel (n : Int) (w : World) (l : List Ed) (k : Nat) (wr : World) : Prop := k ≤ l.length ∧ Below w.heap.size w wr ∧ ∀ j (hj : j < l.length), j < k → chkE n l[j] = 0
theorem ChkRel.next {n : Int} {w wr w' : World} {l : List Ed} {k : Nat} (h : ChkRel n w l k wr) (hk : k < l.length) (h0 : chkE n l[k] = 0) (hb : Below w.heap.size w w') : ChkRel n w l (k + 1) w' := by
  refine ⟨hk, hb, fun j hj hlt => ?_⟩
  by_cases e : j = k
  · subst e; exact h0
  · exact h.2.2 j hj (by omega)
theorem checks_any (n : Int) (a : Option Addr) (c : Nat) (l : List Ed) (hl : l.length ≤ 1048576) (w : World) (hR : ReadsE w.heap.size w a l) :
    Calls Tryd.prog 19 #[.int .i64 n, .slice a l.length c] w fun e w' => e = .returned (.tuple #[.int .i64 (chkL n l 0).1, .int .i64 (chkL n l 0).2]) ∧ Below w.heap.size w w' := by
  have HR := Lib.hid hR
  clear hR
  go_enter Tryd.func19, Tryd.ntmps19
  go_wp2
  go_loopw [11] (fun i wr => ∃ k : Nat, i = .int .i64 k ∧ Hid (ChkRel n w l k wr)) (fun i _ => l.length - (intOf i).toNat)
  case atStart => exact ⟨0, rfl, Lib.hid ⟨Nat.zero_le _, Below.refl _ _, fun j _ h => by omega⟩⟩
  case round =>
    obtain ⟨k, rfl, HK⟩ := hrel
    by_cases hlt : k < l.length
    · have i0 : (0 : Int) ≤ (k : Int) := by omega
      have i1 : (k : Int) < (l.length : Int) := by omega
      obtain ⟨u, v, x, he⟩ : ∃ u v x, l[k] = (u, v, x) := ⟨_, _, _, rfl⟩
      obtain ⟨b, off, rfl, hbw, hbr, c0, c1, c2⟩ := HR.out.cells hlt HK.out.2.1 he
      have HC := Lib.hid (fun W => check_any n (u, v, x) W)
      unfold encE at HC
      have HB : Hid (Below w.heap.size w (wr.alloc (.cells #[.int .i64 u, .int .i64 v, .int .i64 x] 54))) := Lib.hid (HK.out.2.1.alloc HK.out.2.1.size _)
      have HE := Lib.hid he
      clear he
      by_cases h0 : chkE n (u, v, x) = 0
      · have H0 := Lib.hid h0
        rw [h0] at HC
        clear h0
        go_wp2_with (first | (go_at_call 45; refine (HC.out _).mono ?_; rintro e w1 ⟨rfl, hb⟩; have H1 := Lib.hid hb; clear hb))
        go_roundw
        case rel => exact ⟨k + 1, by go_num, Lib.hid (HK.out.next hlt (by rw [HE.out]; exact H0.out) (HB.out.trans (H1.out.mono HB.out.size)))⟩
        case measure => (simp [intOf]; omega)
      · have HX : Hid (chkL n l 0 = (chkE n (u, v, x), (k : Int))) := Lib.hid (by
          rw [chk_hit n l 0 k hlt (by rw [HE.out]; exact h0) HK.out.2.2, HE.out, Nat.zero_add])
        have t : (chkE n (u, v, x) != 0) = true := by simpa using h0
        clear h0
        generalize chkE n (u, v, x) = r at *
        go_wp2_with (first | (go_at_call 45; refine (HC.out _).mono ?_; rintro e w1 ⟨rfl, hb⟩; have H1 := Lib.hid hb; clear hb))
        go_ret2
        exact ⟨ret_iiE (by rw [HX.out]) (by rw [HX.out]), HB.out.trans (H1.out.mono HB.out.size)⟩
    · have hk : k = l.length := by have := HK.out.1; omega
      subst hk
      have HX : Hid (chkL n l 0 = (0, 0)) := Lib.hid (chk_miss n l 0 fun j hj => HK.out.2.2 j hj hj)
      go_wp2
      go_ret2
      exact ⟨ret_iiE (by rw [HX.out]) (by rw [HX.out]), HK.out.2.1⟩
/-- All together, up to k. -/
def TotRel (w : World) (l : List Ed) (k : Nat) (wr : World) : Prop := k ≤ l.length ∧ Below w.heap.size w wr ∧ AccAt w.heap.size wr (sumS ((wts l).take k)) ∧ (sumS ((wts l).take k)).2 = true
theorem wts_at {l : List Ed} {k : Nat} (hk : k < l.length) : (wts l).getD k 0 = l[k].2.2 := by
  unfold wts
  rw [List.getD_eq_getElem?_getD, List.getElem?_eq_getElem (by simpa using hk), List.getElem_map]; rfl
end Go.Proofs.YtceejjgmepaonaaDoor
/- A graph in memory: a row of stars (what a vertex's edges weigh, its other ends), while it is filled and as it is read; the graph itself, or nil. -/
namespace Go.Proofs.YtceejjgmepaonaaDoor
open Go.RowKit Go.ChangeShapes EdPure NtPure
def updN {α : Type} (f : Nat → α) (k : Nat) (x : α) (i : Nat) : α := if i = k then x else f i
theorem updN_at {α : Type} (f : Nat → α) (k : Nat) (x : α) : updN f k x k = x := if_pos rfl
theorem updN_ne {α : Type} (f : Nat → α) {k i : Nat} (x : α) (h : i ≠ k) : updN f k x i = f i := if_neg h
/-- A row of stars that a call fills: the i-th one's degree and list as L tells, its list's slice as V tells; no two lists lie in one block. -/
def StV (B b n : Nat) (w : World) (L : Nat → Int × List Int) (V : Nat → Value) : Prop :=
  (B ≤ b ∧ b < w.heap.size) ∧
  (∀ i, i < n → w.cell? ⟨b, i * 2, none⟩ = some (.int .i64 (L i).1) ∧ w.cell? ⟨b, i * 2 + 1, none⟩ = some (V i) ∧ w.frozen? ⟨b, i * 2, none⟩ = false ∧ w.frozen? ⟨b, i * 2 + 1, none⟩ = false) ∧
  (∀ i, i < n → w.ownsRow B 3 1 (V i) (L i).2.length ((L i).2.map encZ) ∧ ((V i).ownBlock = none ∨ (V i).ownBlock ≠ some b)) ∧
  ∀ i j, i < n → j < n → i ≠ j → (V i).ownBlock = none ∨ (V i).ownBlock ≠ (V j).ownBlock
section
variable {B b n : Nat} {w w1 w2 : World} {L : Nat → Int × List Int} {V : Nat → Value}
theorem StV.keep (h : StV B b n w L V) (hb : Below w.heap.size w w1) : StV B b n w1 L V := by
  obtain ⟨⟨h1, h2⟩, h3, h4, h5⟩ := h
  exact ⟨⟨h1, Nat.lt_of_lt_of_le h2 hb.size⟩, fun i hi => ⟨(hb.cell (by exact h2)).trans (h3 i hi).1, (hb.cell (by exact h2)).trans (h3 i hi).2.1, (hb.frozen (by exact h2)).trans (h3 i hi).2.2.1, (hb.frozen (by exact h2)).trans (h3 i hi).2.2.2⟩,
    fun i hi => ⟨owns_below (h4 i hi).1 hb, (h4 i hi).2⟩, h5⟩
/-- A degree is laid anew. -/
theorem StV.deg (h : StV B b n w L V) {k : Nat} (_hk : k < n) (d : Int) : StV B b n (w.setCell ⟨b, k * 2, none⟩ (.int .i64 d)) (updN L k (d, (L k).2)) V := by
  obtain ⟨⟨h1, h2⟩, h3, h4, h5⟩ := h
  have hs : w.grownBy (w.setCell ⟨b, k * 2, none⟩ (.int .i64 d)) (some b) := ⟨rfl, rfl, rfl, by simp, fun j _ hj => Below.heap_setCell _ _ _ j (fun e => hj (by rw [e]))⟩
  refine ⟨⟨h1, by simpa using h2⟩, fun i hi => ?_, fun i hi => ?_, h5⟩
  · obtain ⟨c0, c1, f0, f1⟩ := h3 i hi
    have e1 : (w.setCell ⟨b, k * 2, none⟩ (.int .i64 d)).cell? ⟨b, i * 2 + 1, none⟩ = some (V i) := (World.cell?_setCell_other _ ⟨b, k * 2, none⟩ ⟨b, i * 2 + 1, none⟩ _ (fun e => by injection e with _ e _; omega)).trans c1
    by_cases e : i = k
    · subst e
      rw [updN_at]
      exact ⟨World.cell?_setCell_same _ _ _ c0, e1, by simpa using f0, by simpa using f1⟩
    · rw [updN_ne _ _ e]
      exact ⟨(World.cell?_setCell_other _ ⟨b, k * 2, none⟩ ⟨b, i * 2, none⟩ _ (fun e2 => by injection e2 with _ e2 _; omega)).trans c0, e1, by simpa using f0, by simpa using f1⟩
  · have e1 := (h4 i hi).1.kept hs (h4 i hi).2
    by_cases e : i = k
    · subst e
      rw [updN_at]
      exact ⟨e1, (h4 i hi).2⟩
    · rw [updN_ne _ _ e]
      exact ⟨e1, (h4 i hi).2⟩
/-- A number is put behind a list. -/
theorem StV.put {v' : Value} {x : Int} (h : StV B b n w L V) {k : Nat} (hk : k < n) (hb : Below w.heap.size w w1) (hown : w2.ownsRow B 3 1 v' ((L k).2.length + 1) ((L k).2.map encZ ++ [encZ x]))
    (hg : w1.grownBy w2 (V k).ownBlock) (hat : v'.ownBlock = (V k).ownBlock ∨ v'.ownBlock = some w1.heap.size) :
    (w2.cell? ⟨b, k * 2 + 1, none⟩ = some (V k) ∧ w2.frozen? ⟨b, k * 2 + 1, none⟩ = false ∧ b < w2.heap.size) ∧ StV B b n (w2.setCell ⟨b, k * 2 + 1, none⟩ v') (updN L k ((L k).1, (L k).2 ++ [x])) (updN V k v') := by
  have hlt : ∀ i, i < n → ∀ j, (V i).ownBlock = some j → j < w.heap.size := fun i hi j hj => ((h.2.2.1 i hi).1.lt j hj).2
  have h' := h.keep hb
  have s1 := hb.size
  obtain ⟨⟨h1, h2⟩, h3, h4, h5⟩ := h'
  obtain ⟨⟨-, k2⟩, -, -, -⟩ := h
  have hbb : w2.heap[b]? = w1.heap[b]? := hg.block b h2 (fun e => by rcases (h4 k hk).2 with e2 | e2 <;> rw [← e] at e2 <;> first | cases e2 | exact e2 rfl)
  have own2 : ∀ i, i < n → i ≠ k → w2.ownsRow B 3 1 (V i) (L i).2.length ((L i).2.map encZ) := fun i hi e => (h4 i hi).1.kept hg (h5 i k hi hk e)
  have hvb : v'.ownBlock = none ∨ v'.ownBlock ≠ some b := by
    rcases hat with e | e
    · rw [e]; exact (h4 k hk).2
    · rw [e]; exact Or.inr (fun e2 => by injection e2 with e2; omega)
  have hs : w2.grownBy (w2.setCell ⟨b, k * 2 + 1, none⟩ v') (some b) := ⟨rfl, rfl, rfl, by simp, fun j _ hj => Below.heap_setCell _ _ _ j (fun e => hj (by rw [e]))⟩
  have cw : ∀ i, i < n → w2.cell? ⟨b, i * 2, none⟩ = some (.int .i64 (L i).1) ∧ w2.cell? ⟨b, i * 2 + 1, none⟩ = some (V i) ∧ w2.frozen? ⟨b, i * 2, none⟩ = false ∧ w2.frozen? ⟨b, i * 2 + 1, none⟩ = false := fun i hi => by
    obtain ⟨c0, c1, f0, f1⟩ := h3 i hi
    exact ⟨(World.cell?_of_block (a := ⟨b, i * 2, none⟩) hbb).trans c0, (World.cell?_of_block (a := ⟨b, i * 2 + 1, none⟩) hbb).trans c1, (World.frozen?_of_block (a := ⟨b, i * 2, none⟩) hbb).trans f0, (World.frozen?_of_block (a := ⟨b, i * 2 + 1, none⟩) hbb).trans f1⟩
  have other : ∀ i, i < n → i ≠ k → ((V i).ownBlock = none ∨ (V i).ownBlock ≠ v'.ownBlock) ∧ (v'.ownBlock = none ∨ v'.ownBlock ≠ (V i).ownBlock) := fun i hi e => by
    rcases hat with e1 | e1
    · rw [e1]; exact ⟨h5 i k hi hk e, h5 k i hk hi (fun e2 => e e2.symm)⟩
    · rw [e1]
      refine ⟨?_, Or.inr fun e2 => by have := hlt i hi _ e2.symm; omega⟩
      cases e3 : (V i).ownBlock with
      | none => exact Or.inl rfl
      | some j => exact Or.inr fun e2 => by injection e2 with e2; have := hlt i hi j e3; omega
  refine ⟨⟨(cw k hk).2.1, (cw k hk).2.2.2, Nat.lt_of_lt_of_le h2 hg.size⟩, ⟨h1, by simpa using Nat.lt_of_lt_of_le h2 hg.size⟩, fun i hi => ?_, fun i hi => ?_, fun i j hi hj hij => ?_⟩
  · obtain ⟨c0, c1, f0, f1⟩ := cw i hi
    have e0 : (w2.setCell ⟨b, k * 2 + 1, none⟩ v').cell? ⟨b, i * 2, none⟩ = some (.int .i64 (L i).1) := (World.cell?_setCell_other _ ⟨b, k * 2 + 1, none⟩ ⟨b, i * 2, none⟩ _ (fun e => by injection e with _ e _; omega)).trans c0
    by_cases e : i = k
    · subst e
      rw [updN_at, updN_at]
      exact ⟨e0, World.cell?_setCell_same _ _ _ c1, by simpa using f0, by simpa using f1⟩
    · rw [updN_ne _ _ e, updN_ne _ _ e]
      exact ⟨e0, (World.cell?_setCell_other _ ⟨b, k * 2 + 1, none⟩ ⟨b, i * 2 + 1, none⟩ _ (fun e2 => by injection e2 with _ e2 _; omega)).trans c1, by simpa using f0, by simpa using f1⟩
  · by_cases e : i = k
    · subst e
      rw [updN_at, updN_at, List.length_append, List.map_append]
      exact ⟨hown.kept hs hvb, hvb⟩
    · rw [updN_ne _ _ e, updN_ne _ _ e]
      exact ⟨(own2 i hi e).kept hs (h4 i hi).2, (h4 i hi).2⟩
  · by_cases e : i = k
    · by_cases e' : j = k
      · exact absurd (e.trans e'.symm) hij
      · subst e
        rw [updN_at, updN_ne _ _ e']
        exact (other j hj e').2
    · by_cases e' : j = k
      · subst e'
        rw [updN_at, updN_ne _ _ e]
        exact (other i hi e).1
      · rw [updN_ne _ _ e, updN_ne _ _ e']
        exact h5 i j hi hj hij
end
/-- What is read of a row of stars. -/
def StarsR (N : Nat) (w : World) (a : Option Addr) (n : Nat) (M : List Ed) : Prop :=
  n = 0 ∨ ∃ b off, a = some ⟨b, off, none⟩ ∧ b < N ∧ ∀ i, i < n → w.cell? ⟨b, off + i * 2, none⟩ = some (.int .i64 (degE M i)) ∧ ∃ q c, w.cell? ⟨b, off + i * 2 + 1, none⟩ = some (.slice q (nearE M i).length c) ∧ ReadsL encZ N w q (nearE M i)
theorem StarsR.mono {N N' : Nat} {w : World} {a : Option Addr} {n : Nat} {M : List Ed} (h : StarsR N w a n M) (hN : N ≤ N') : StarsR N' w a n M := by
  rcases h with h | ⟨b, off, ha, hb, hc⟩
  · exact Or.inl h
  · exact Or.inr ⟨b, off, ha, Nat.lt_of_lt_of_le hb hN, fun i hi => by obtain ⟨h1, q, c, h2, h3⟩ := hc i hi; exact ⟨h1, q, c, h2, h3.mono hN⟩⟩
theorem StarsR.on {N : Nat} {w w' : World} {a : Option Addr} {n : Nat} {M : List Ed} (h : StarsR N w a n M) (hb : Below N w w') : StarsR N w' a n M := by
  rcases h with h | ⟨b, off, ha, hN, hc⟩
  · exact Or.inl h
  · exact Or.inr ⟨b, off, ha, hN, fun i hi => by obtain ⟨h1, q, c, h2, h3⟩ := hc i hi; exact ⟨(hb.cell (by exact hN)).trans h1, q, c, (hb.cell (by exact hN)).trans h2, h3.on hb⟩⟩
theorem StarsR.over {N : Nat} {w w' : World} {a : Option Addr} {n : Nat} {M : List Ed} (h : StarsR N w a n M) (hb : Below w.heap.size w w') (hN : N ≤ w.heap.size) : StarsR w'.heap.size w' a n M := ((h.mono hN).on hb).mono hb.size
theorem StV.reads {B b n : Nat} {w : World} {M : List Ed} {V : Nat → Value} (h : StV B b n w (fun i => (degE M i, nearE M i)) V) : StarsR w.heap.size w (some ⟨b, 0, none⟩) n M := by
  obtain ⟨⟨h1, h2⟩, h3, h4, h5⟩ := h
  refine Or.inr ⟨b, 0, rfl, h2, fun i hi => ?_⟩
  obtain ⟨c0, c1, -, -⟩ := h3 i hi
  obtain ⟨q, c, e, hr, -⟩ := owns_readsL rfl (h4 i hi).1
  rw [e] at c1
  rw [Nat.zero_add]
  exact ⟨c0, q, c, c1, hr⟩
/-- A graph in memory, or nil, which has no vertices. -/
def NetAt (p : Option Addr) (n : Nat) (M : List Ed) (w : World) : Prop :=
  (p = none ∧ n = 0 ∧ M = []) ∨ ∃ g pv cv pe ce, p = some ⟨g, 0, none⟩ ∧ g < w.heap.size ∧ w.cell? ⟨g, 0, none⟩ = some (.slice pv n cv) ∧ w.cell? ⟨g, 1, none⟩ = some (.slice pe M.length ce) ∧ ReadsE w.heap.size w pe M ∧ StarsR w.heap.size w pv n M
theorem NetAt.over {p : Option Addr} {n : Nat} {M : List Ed} {w w' : World} (h : NetAt p n M w) (hb : Below w.heap.size w w') : NetAt p n M w' := by
  rcases h with h | ⟨g, pv, cv, pe, ce, h1, h2, h3, h4, h5, h6⟩
  · exact Or.inl h
  · exact Or.inr ⟨g, pv, cv, pe, ce, h1, Nat.lt_of_lt_of_le h2 hb.size, (hb.cell (by exact h2)).trans h3, (hb.cell (by exact h2)).trans h4, h5.over hb (Nat.le_refl _), h6.over hb (Nat.le_refl _)⟩
theorem NetAt.nil (w : World) : NetAt none 0 [] w := Or.inl ⟨rfl, rfl, rfl⟩
end Go.Proofs.YtceejjgmepaonaaDoor
