/- Texts that the laws of this seat stand on, part 26. -/
import Derived.Test.YtmohfmhkhldhnaaGreatPk23
import Derived.Test.YtmohfmhkhldhnaaGreatPk25
import Derived.Deep.RegionWith
import Derived.StillTailTactics
import Derived.Test.YtmohfmhkhldhnaaGreatPk5
import Derived.Test.YtmohfmhkhldhnaaGreatPk1
import Derived.WalkMore
import Derived.Maps.AppendAt
import Derived.Deep.QuietTactic
import Derived.Deep.Cut
import Derived.Deep.CutRange
import Derived.BigQuiet
import Derived.BigRegion
import Derived.Test.YtmohfmhkhldhnaaGreatPk15
import Derived.Test.YtmohfmhkhldhnaaGreatPk6
import Derived.Test.YtmohfmhkhldhnaaGreatPk13
/- The document's names of classes (layer 20). -/
namespace Go.Proofs.YtmohfmhkhldhnaaGreat.Cm
open Go.RowKit Go.ChangeShapes EdPure NtPure DsuPure CmPure Ds
/-- The row of names as it is laid, beside the lists. -/
def NmSt (w : World) (C n : Nat) (p : Nat → Nat) (K : Nat) (q : Option Addr) (D : List Int) (wr : World) : Prop :=
  Below w.heap.size w wr ∧ RowIs C wr ((valL n p D).map encZ) ∧ RowsAt K wr q (listsP n p) ∧ (C < K ∧ w.heap.size ≤ C) ∧ C < wr.heap.size
theorem NmSt.keep {w wr w' : World} {C n K : Nat} {p : Nat → Nat} {q : Option Addr} {D : List Int} (h : NmSt w C n p K q D wr) (hb : Below wr.heap.size wr w') : NmSt w C n p K q D w' :=
  ⟨h.1.trans (hb.mono h.1.size), h.2.1.on hb h.2.2.2.2, h.2.2.1.keep hb, h.2.2.2.1, Nat.lt_of_lt_of_le h.2.2.2.2 hb.size⟩
theorem NmSt.frozen {w wr : World} {C n K : Nat} {p : Nat → Nat} {q : Option Addr} {D : List Int} (h : NmSt w C n p K q D wr) {x : Nat} (hx : x < n) : (∃ u, wr.cell? ⟨C, x, none⟩ = some u) ∧ wr.frozen? ⟨C, x, none⟩ = false := by
  obtain ⟨h1, h2⟩ := h.2.1 x (by rw [List.length_map, valL_len]; exact hx)
  exact ⟨⟨_, h1⟩, h2⟩
theorem NmSt.store {w wr : World} {C n K : Nat} {p : Nat → Nat} {q : Option Addr} {D : List Int} (h : NmSt w C n p K q D wr) {x : Nat} (hx : x < n) : NmSt w C n p K q (D ++ [(x : Int)]) (wr.setCell ⟨C, x, none⟩ (.int .i64 (p x : Int))) := by
  obtain ⟨h1, h2, h3, ⟨h4, h5⟩, h6⟩ := h
  refine ⟨h1.setCell (p := ⟨C, x, none⟩) h5 _, ?_, h3.past (by simp) fun k hk _ => Below.heap_setCell _ _ _ k (fun e => by have : k = C := e; omega), ⟨h4, h5⟩, by simpa using h6⟩
  have := h2.set (k := x) (by rw [List.length_map, valL_len]; exact hx) (.int .i64 (p x : Int))
  rw [← valL_set D hx, List.map_set]
  exact this
set_option maxRecDepth 100000 in
set_option maxHeartbeats 2000000 in
theorem refName_any (n : Nat) (hn : n ≤ 4096) (a : Option Addr) (c : Nat) (M : List Ed) (hl : M.length ≤ 100000) (w : World) (hR : ReadsE w.heap.size w a M) :
    Calls Tryz.prog 19 #[.agg #[.int .i64 (n : Int), .slice a M.length c]] w fun e w' => IntsOf (nameL n (namH n M 0)) w e w' := by
  have HS : Hid (BoxSt w w.heap.size (n : Int) a c M (w.alloc (.cells #[.int .i64 (n : Int), .slice a M.length c] 37))) := Lib.hid (BoxSt.start hR)
  have HNM := Lib.hid (nam_names n M 0)
  clear hR
  go_enter Tryz.func19, Tryz.ntmps19
  go_upto_region 1 with fail
  generalize w.alloc (.cells #[.int .i64 (n : Int), .slice a M.length c] 37) = W0 at *
  obtain ⟨c0, c1, -, -⟩ := HS.out.2.1
  have hmk := makeRow (P := Tryz.prog) (T := 32) (E := 3) (z := .int .i64 0) (c := 8) Tryz.underlying32 (by kernel_rfl) (by decide) rfl n (by omega) W0
  have hbC : Below W0.heap.size W0 (W0.alloc (.cells (madeCells #[.int .i64 0] n) 3)) := (Below.refl _ _).alloc (Nat.le_refl _) _
  have HS1 := Lib.hid (HS.out.keep hbC)
  have HRW : Hid (RowIs W0.heap.size (W0.alloc (.cells (madeCells #[.int .i64 0] n) 3)) ((valL n (namH n M 0) []).map encZ)) := Lib.hid (by
    have h := rowIs_made W0 (.int .i64 0) n 3
    rw [valL_nil, List.map_replicate]
    exact h)
  have HCW : Hid (w.heap.size ≤ W0.heap.size ∧ W0.heap.size < (W0.alloc (.cells (madeCells #[.int .i64 0] n) 3)).heap.size) := Lib.hid ⟨HS.out.1.size, by simp⟩
  have HF := Lib.hid (refOf_any n hn a c M hl _ HS1.out.2.2)
  clear hbC
  go_upto_region 2 with fail
  generalize W0.alloc (.cells (madeCells #[.int .i64 0] n) 3) = W1 at *
  generalize W0.heap.size = C at *
  clear c0 c1 hmk
  obtain ⟨c0, c1, -, -⟩ := HS1.out.2.1
  go_wp2_with fail
  refine HF.out.mono ?_
  rintro e w1 ⟨hb1, q, d, K, rfl, hr, hK⟩
  have HN0 : Hid (NmSt w C n (namH n M 0) K q (((listsP n (namH n M 0)).take 0).flatten) w1) := Lib.hid
    ⟨HS1.out.1.trans (hb1.mono HS1.out.1.size), HRW.out.on hb1 HCW.out.2, hr, ⟨Nat.lt_of_lt_of_le HCW.out.2 hK, HCW.out.1⟩, Nat.lt_of_lt_of_le HCW.out.2 hb1.size⟩
  have HLF : Hid ((listsP n (namH n M 0)).length ≤ 4096) := Lib.hid (Nat.le_trans lists_few hn)
  have HLR : Hid (∀ i (hi : i < (listsP n (namH n M 0)).length), ((listsP n (namH n M 0))[i]).length ≤ 4096) := Lib.hid fun i hi => Nat.le_trans (lists_rows _ (List.getElem_mem hi)) hn
  clear hb1 hr hK c0 c1 HS HS1 HF HRW HCW
  go_wp2_with fail
  go_loopw [5] (fun iv wr => ∃ i : Nat, iv = .int .i64 i ∧ i ≤ (listsP n (namH n M 0)).length ∧ Hid (NmSt w C n (namH n M 0) K q (((listsP n (namH n M 0)).take i).flatten) wr)) (fun iv _ => (listsP n (namH n M 0)).length - (intOf iv).toNat)
  case atStart => exact ⟨0, rfl, Nat.zero_le _, HN0⟩
  case round =>
    clear HN0
    obtain ⟨i, rfl, hi, HI⟩ := hrel
    have hlf := HLF.out
    by_cases hlt : i < (listsP n (namH n M 0)).length
    · have i1 : (i : Int) < ((listsP n (namH n M 0)).length : Int) := by omega
      have hrl := HLR.out i hlt
      obtain ⟨row, hrow⟩ : ∃ row, (listsP n (namH n M 0))[i] = row := ⟨_, rfl⟩
      have HROW := Lib.hid hrow
      rw [hrow] at hrl
      have HI0 : Hid (NmSt w C n (namH n M 0) K q (((listsP n (namH n M 0)).take i).flatten ++ row.take 0) wr) := Lib.hid (by rw [List.take_zero, List.append_nil]; exact HI.out)
      clear hrow HI
      go_wp2_with fail
      go_loopw [6] (fun kv wr => ∃ k : Nat, kv = .int .i64 k ∧ k ≤ row.length ∧ Hid (NmSt w C n (namH n M 0) K q (((listsP n (namH n M 0)).take i).flatten ++ row.take k) wr)) (fun kv _ => row.length - (intOf kv).toNat)
      case atStart => exact ⟨0, rfl, Nat.zero_le _, HI0⟩
      case round =>
        clear HI0
        obtain ⟨k, rfl, hk, HN⟩ := hrel
        obtain ⟨b, off, q2, c2, rfl, hbN, hc, hrd⟩ := HN.out.2.2.1.at hlt
        rw [HROW.out] at hc hrd
        by_cases hlt2 : k < row.length
        · have i2 : (k : Int) < (row.length : Int) := by omega
          obtain ⟨x, x1, x2, x3⟩ : ∃ x : Nat, x < n ∧ row[k] = (x : Int) ∧ row[0]'(by omega) = (namH n M 0 x : Int) := by
            have hk2 : k < ((listsP n (namH n M 0))[i]).length := by rw [HROW.out]; exact hlt2
            have h := row_facts HNM.out hlt hk2
            simp only [HROW.out] at h
            exact h
          have HU : Hid (row.take (k + 1) = row.take k ++ [(x : Int)]) := Lib.hid (by rw [List.take_succ_eq_append_getElem hlt2, x2])
          have HZ := Lib.hid (fun m => (HN.out.keep (below_drewN (Below.refl _ _) m)).store x1)
          obtain ⟨b2, off2, rfl, hbN2, hck⟩ := hrd.at hlt2
          have hc0 : wr.cell? ⟨b2, off2 + 0, none⟩ = some (encZ (row[0]'(by omega))) := by
            rcases hrd with h | ⟨b3, off3, e, -, h⟩
            · rw [h] at hlt2; simp at hlt2
            · cases e; exact h 0 (by omega)
          unfold encZ at hck hc0
          rw [x2] at hck
          rw [x3] at hc0
          go_wp2_with fail
          obtain ⟨⟨u0, k2⟩, k3⟩ := (HN.out.keep (below_drewN (Below.refl _ _) 1)).frozen x1
          have hCN := HN.out.2.2.2.2
          have k0 : (wr.drewN 1).cell? ⟨b2, off2 + k, none⟩ = _ := hck
          have k1 : (wr.drewN 1).cell? ⟨b2, off2, none⟩ = _ := hc0
          have k4 := hc
          change (wr.drewN 1).cell? _ = _ at k4
          have HZ1 := Lib.hid (HZ.out 1)
          rw [List.append_assoc, ← HU.out] at HZ1
          have j0 : (0 : Int) ≤ (x : Int) := by omega
          have j1 : (x : Int) < (n : Int) := by omega
          have j2 : (0 : Int) ≤ (k : Int) := by omega
          have j3 : (0 : Int) ≤ (i : Int) := by omega
          have i3 : 0 < row.length := by omega
          clear HZ hck hc0 hc hrd hbN hbN2
          refine wp_region_still_tail 15 (by kernel_rfl) (by kernel_rfl) ?_
          change wpStill _ _ (wr.drewN 1) _ _ _
          change wpStill _ _ _ (fun a' => wpList _ _ _ _ _ (wr.drewN 1)) _ _
          generalize wr.drewN 1 = V at *
          simp only [List.take_succ_cons, List.take_zero, List.drop_succ_cons, List.drop_zero]
          iterate 15 still_step
          refine wpStill_nil ?_
          go_wp2
          go_roundw
          case rel => exact ⟨k + 1, by go_num, hlt2, HZ1⟩
          case measure => (simp [intOf]; omega)
        · have hke : k = row.length := by omega
          have i2 : ¬ (k : Int) < (row.length : Int) := by omega
          have HZ : Hid (NmSt w C n (namH n M 0) K (some ⟨b, off, none⟩) (((listsP n (namH n M 0)).take (i + 1)).flatten) wr) := Lib.hid (by
            have h := HN.out
            rw [hke, List.take_length] at h
            rw [List.take_succ_eq_append_getElem hlt, List.flatten_append, HROW.out]
            simpa using h)
          clear hke
          go_wp2
          go_roundw
          case rel => exact ⟨i + 1, by go_num, hlt, HZ⟩
          case measure => (simp [intOf]; omega)
    · have hie : i = (listsP n (namH n M 0)).length := by omega
      have i1 : ¬ (i : Int) < ((listsP n (namH n M 0)).length : Int) := by omega
      have HE : Hid (RowIs C wr ((nameL n (namH n M 0)).map encZ)) := Lib.hid (by
        have h := HI.out.2.1
        rw [hie, List.take_length, valL_all HNM.out] at h
        exact h)
      have HB := Lib.hid HI.out.1
      have HLN : Hid ((nameL n (namH n M 0)).length = n) := Lib.hid (by unfold nameL; simp)
      clear hie HI
      go_wp2
      go_ret
      refine ⟨HB.out, some ⟨C, 0, none⟩, n, by rw [HLN.out]; rfl, HE.out.reads⟩
end Go.Proofs.YtmohfmhkhldhnaaGreat.Cm
/- What a call turns and what it leaves: 'Turn O': nothing but the blocks of O is otherwise; rows and lists over it. No function of the program is named. -/
namespace Go.Proofs.YtmohfmhkhldhnaaGreat
open Go.RowKit Go.ChangeShapes
/-- Nothing but the blocks of O is otherwise; new ones may lie behind. -/
def Turn (O : Nat → Prop) (w w' : World) : Prop :=
  w'.os = w.os ∧ w'.tape = w.tape ∧ w'.output = w.output ∧ w.heap.size ≤ w'.heap.size ∧ ∀ k, k < w.heap.size → ¬ O k → w'.heap[k]? = w.heap[k]?
theorem Turn.refl (O : Nat → Prop) (w : World) : Turn O w w := ⟨rfl, rfl, rfl, Nat.le_refl _, fun _ _ _ => rfl⟩
theorem Turn.trans {O O' : Nat → Prop} {a b c : World} (h : Turn O a b) (k : Turn O' b c) (ho : ∀ x, O' x → O x ∨ a.heap.size ≤ x) : Turn O a c := by
  obtain ⟨h1, h2, h3, h4, h5⟩ := h
  obtain ⟨k1, k2, k3, k4, k5⟩ := k
  refine ⟨k1.trans h1, k2.trans h2, k3.trans h3, Nat.le_trans h4 k4, fun i hi e => (k5 i (Nat.lt_of_lt_of_le hi h4) (fun e2 => ?_)).trans (h5 i hi e)⟩
  rcases ho i e2 with e3 | e3
  · exact e e3
  · omega
theorem Turn.grown {O : Nat → Prop} {w w' : World} {row : Option Nat} (h : w.grownBy w' row) (ho : ∀ k, row = some k → O k) : Turn O w w' :=
  ⟨h.os, h.tape, h.output, h.size, fun k hk e => h.block k hk (fun e2 => e (ho k e2.symm))⟩
theorem Turn.cell {O : Nat → Prop} {b : Nat} (w : World) (i : Nat) (v : Value) (ho : O b) : Turn O w (w.setCell ⟨b, i, none⟩ v) :=
  ⟨rfl, rfl, rfl, by simp, fun k _ hk => Below.heap_setCell _ _ _ k (fun e => hk (by rw [show k = b from e]; exact ho))⟩
theorem Turn.ofBelow {O : Nat → Prop} {w w' : World} (h : Below w.heap.size w w') : Turn O w w' := ⟨h.os, h.tape, h.output, h.size, fun k hk _ => h.block k hk⟩
theorem Turn.drawn {O : Nat → Prop} {w w' : World} (h : Turn O w w') (k : Nat) : Turn O w (w'.drewN k) := h
theorem Turn.below {O : Nat → Prop} {M : Nat} {w w' : World} (h : Turn O w w') (hs : M ≤ w.heap.size) (ho : ∀ k, O k → M ≤ k) : Below M w w' := by
  obtain ⟨h1, h2, h3, h4, h5⟩ := h
  exact ⟨h1, h2, h3, h4, fun k hk => h5 k (by omega) (fun e => by have := ho k e; omega)⟩
theorem Turn.size {O : Nat → Prop} {w w' : World} (h : Turn O w w') : w.heap.size ≤ w'.heap.size := h.2.2.2.1
/-- Four cells of one block. -/
def FourAt (N : Nat) (w : World) (a b c d : Value) : Prop := RowIs N w [a, b, c, d]
theorem FourAt.cells {N : Nat} {w : World} {a b c d : Value} (h : FourAt N w a b c d) :
    (w.cell? ⟨N, 0, none⟩ = some a ∧ w.cell? ⟨N, 1, none⟩ = some b ∧ w.cell? ⟨N, 2, none⟩ = some c ∧ w.cell? ⟨N, 3, none⟩ = some d) ∧
    (w.frozen? ⟨N, 0, none⟩ = false ∧ w.frozen? ⟨N, 1, none⟩ = false ∧ w.frozen? ⟨N, 2, none⟩ = false ∧ w.frozen? ⟨N, 3, none⟩ = false) :=
  ⟨⟨(h 0 (by simp)).1, (h 1 (by simp)).1, (h 2 (by simp)).1, (h 3 (by simp)).1⟩, (h 0 (by simp)).2, (h 1 (by simp)).2, (h 2 (by simp)).2, (h 3 (by simp)).2⟩
theorem FourAt.lt {N : Nat} {w : World} {a b c d : Value} (h : FourAt N w a b c d) : N < w.heap.size := RowIs.lt h (by simp)
theorem FourAt.new (w : World) (a b c d : Value) (T : TypeId) : FourAt w.heap.size (w.alloc (.cells #[a, b, c, d] T)) a b c d := by
  intro i hi
  match i, hi with
  | 0, _ => exact ⟨by simp, by simp⟩
  | 1, _ => exact ⟨by simp, by simp⟩
  | 2, _ => exact ⟨by simp, by simp⟩
  | 3, _ => exact ⟨by simp, by simp⟩
theorem row_same {b : Nat} {w w' : World} {vs : List Value} (h : RowIs b w vs) (hk : w'.heap[b]? = w.heap[b]?) : RowIs b w' vs :=
  fun i hi => ⟨(World.cell?_of_block hk).trans (h i hi).1, (World.frozen?_of_block hk).trans (h i hi).2⟩
theorem owns_same {w w' : World} {B : Nat} {e : TypeId} {size n : Nat} {v : Value} {xs : List Value} (h : w.ownsRow B e size v n xs) (hk : ∀ k, v.ownBlock = some k → w'.heap[k]? = w.heap[k]?) : w'.ownsRow B e size v n xs := by
  obtain ⟨h1, h2 | ⟨g, cap, cur, rfl, h3, h4, h5⟩⟩ := h
  · exact ⟨h1, Or.inl h2⟩
  · exact ⟨h1, Or.inr ⟨g, cap, cur, rfl, h3, (hk g rfl).trans h4, h5⟩⟩
/-- Where there are cells they lie in a block of their own. -/
theorem owns_slice {w : World} {B n : Nat} {e : TypeId} {size : Nat} {v : Value} {xs : List Value} (h : w.ownsRow B e size v n xs) (hn : 0 < n) : ∃ g cap, v = .slice (some ⟨g, 0, none⟩) n cap ∧ B ≤ g ∧ g < w.heap.size := by
  have hl := h.lt
  obtain ⟨h1, ⟨h2, h3⟩ | ⟨g, cap, cur, rfl, h3, h4, h5⟩⟩ := h
  · omega
  · exact ⟨g, cap, rfl, h3, (hl g rfl).2⟩
theorem owns_any {w : World} {B n : Nat} {e : TypeId} {size : Nat} {v : Value} {xs : List Value} (h : w.ownsRow B e size v n xs) : ∃ q cap, v = .slice q n cap := by
  obtain ⟨h1, ⟨h2, h3⟩ | ⟨g, cap, cur, rfl, h3, h4, h5⟩⟩ := h
  · exact ⟨none, 0, by rw [h2, h3]⟩
  · exact ⟨_, cap, rfl⟩
theorem four_set {b : Nat} {w : World} {v0 v1 v2 v3 : Value} (h : FourAt b w v0 v1 v2 v3) (u : Value) :
    FourAt b (w.setCell ⟨b, 1, none⟩ u) v0 u v2 v3 ∧ FourAt b (w.setCell ⟨b, 2, none⟩ u) v0 v1 u v3 ∧ FourAt b (w.setCell ⟨b, 3, none⟩ u) v0 v1 v2 u :=
  ⟨RowIs.set h (k := 1) (by simp) u, RowIs.set h (k := 2) (by simp) u, RowIs.set h (k := 3) (by simp) u⟩
theorem cell_other {w : World} {b i k : Nat} {v : Value} (h : k ≠ b) : (w.setCell ⟨b, i, none⟩ v).heap[k]? = w.heap[k]? := Below.heap_setCell _ _ _ k (fun e => h e)
theorem reads_same {α : Type} {enc : α → Value} {w w' : World} {q : Option Addr} {l : List α} (h : ReadsL enc w.heap.size w q l) (hk : ∀ z, q = some z → w'.heap[z.block]? = w.heap[z.block]?) (hs : w.heap.size ≤ w'.heap.size) : ReadsL enc w'.heap.size w' q l := by
  rcases h with h | ⟨b, off, rfl, hN, hc⟩
  · exact Or.inl h
  · exact Or.inr ⟨b, off, rfl, Nat.lt_of_lt_of_le hN hs, fun i hi => (World.cell?_of_block (a := ⟨b, off + i, none⟩) (hk ⟨b, off, none⟩ rfl)).trans (hc i hi)⟩
theorem reads_news {α : Type} {enc : α → Value} {N : Nat} {w : World} {ad : Addr} {l : List α} (h : ReadsL enc N w (some ad) l) : ∀ j u, (l.map enc)[j]? = some u → w.cell? (ad.add j) = some u := by
  intro j u hj
  rcases h with h | ⟨b, off, e, -, hc⟩
  · subst h; simp at hj
  · cases e
    obtain ⟨hjl, rfl⟩ := List.getElem?_eq_some_iff.1 hj
    rw [List.getElem_map, addr_add]
    exact hc j (by simpa using hjl)
theorem owns_apart {w : World} {B B' n n' s s' : Nat} {e e' : TypeId} {v v' : Value} {xs xs' : List Value} (h : w.ownsRow B e s v n xs) (h' : w.ownsRow B' e' s' v' n' xs') (hne : e ≠ e') : ∀ k, v.ownBlock = some k → v'.ownBlock ≠ some k := by
  intro k hk hk'
  obtain ⟨-, ⟨rfl, -⟩ | ⟨g, cap, cur, rfl, -, hg, -⟩⟩ := h
  · simp [Value.ownBlock] at hk
  obtain ⟨-, ⟨rfl, -⟩ | ⟨g', cap', cur', rfl, -, hg', -⟩⟩ := h'
  · simp [Value.ownBlock] at hk'
  simp [Value.ownBlock] at hk hk'
  subst hk
  subst hk'
  rw [hg] at hg'
  simp at hg'
  exact hne hg'.2
theorem info_int : ∃ i, (Tryz.prog.info? 3) = some i ∧ i.zero = some (.int .i64 0) ∧ i.size = 1 ∧ i.bytes = 8 := info_of (by kernel_rfl)
/-- What a call that gathers numbers answers. -/
def ListOut (l : List Int) (w w' : World) (v : Value) : Prop := ∃ q c, v = .slice q l.length c ∧ ReadsL encZ w'.heap.size w' q l ∧ Below w.heap.size w w'
end Go.Proofs.YtmohfmhkhldhnaaGreat
/- Contracts of joined and classes: the classes of what hangs together by edges that weigh at least so much; of Of, Heavy, Count, named and Name. -/
namespace Go.Proofs.YtmohfmhkhldhnaaGreat.Cm
open Go.RowKit Go.ChangeShapes EdPure NtPure DsuPure CmPure Ds
/-- While edges are joined: the classes, and the edges beside. -/
def JoSt (cb cg cm : Nat) (w : World) (N : Nat) (M : List Ed) (least : Int) (qv : Value) (k : Nat) (W : World) : Prop :=
  ClsAt cb cg cm W N (namH N (M.take k) least) ∧ (Below w.heap.size w W ∧ w.heap.size ≤ cb ∧ w.heap.size ≤ cg ∧ w.heap.size ≤ cm) ∧ ∃ B, W.ownsRow B 54 3 qv M.length (flatE M) ∧ cb < B ∧ cg < B ∧ cm < B
theorem JoSt.keep {cb cg cm : Nat} {w : World} {N : Nat} {M : List Ed} {least : Int} {qv : Value} {k : Nat} {W W' : World} (h : JoSt cb cg cm w N M least qv k W) (hb : Below W.heap.size W W') : JoSt cb cg cm w N M least qv k W' := by
  obtain ⟨h1, ⟨h2, h3⟩, B, h4, h5⟩ := h
  exact ⟨h1.keep hb, ⟨h2.trans (hb.mono h2.size), h3⟩, B, owns_below h4 hb, h5⟩
theorem JoSt.same {cb cg cm : Nat} {w : World} {N : Nat} {M : List Ed} {least : Int} {qv : Value} {k : Nat} {W : World} (h : JoSt cb cg cm w N M least qv k W) (hk : k < M.length) (hn : ¬ least ≤ M[k].2.2) : JoSt cb cg cm w N M least qv (k + 1) W := by
  obtain ⟨h1, h2⟩ := h
  refine ⟨?_, h2⟩
  rw [nam_take hk]
  unfold stepH
  rw [if_neg hn]
  exact h1
theorem JoSt.join {cb cg cm : Nat} {w : World} {N : Nat} {M : List Ed} {least : Int} {qv : Value} {k : Nat} {W W' : World} (h : JoSt cb cg cm w N M least qv k W) (hk : k < M.length) (hn : least ≤ M[k].2.2) (ht : Turns cg cm W W') (hc : ClsAt cb cg cm W' N (joinZ N (namH N (M.take k) least) M[k].1 M[k].2.1)) : JoSt cb cg cm w N M least qv (k + 1) W' := by
  obtain ⟨h1, ⟨h2, h3, h4, h5⟩, B, h6, h7, h8, h9⟩ := h
  refine ⟨?_, ⟨h2.trans (ht.below h2.size h4 h5), h3, h4, h5⟩, B, owns_same h6 fun j hj => ?_, h7, h8, h9⟩
  · rw [nam_take hk]
    unfold stepH
    rw [if_pos hn]
    exact hc
  · have := h6.lt j hj
    exact ht.2.2.2.2 j this.2 (by omega) (by omega)
def JoinedOut (w : World) (N : Nat) (r : Nat → Nat) (e : Ending) (W : World) : Prop :=
  ∃ cb cg cm, e = .returned (.pointer (some ⟨cb, 0, none⟩)) ∧ ClsAt cb cg cm W N r ∧ (Below w.heap.size w W ∧ w.heap.size ≤ cb ∧ w.heap.size ≤ cg ∧ w.heap.size ≤ cm)
set_option maxRecDepth 100000 in
set_option maxHeartbeats 4000000 in
theorem joined_any (p : Option Addr) (N : Nat) (M : List Ed) (hN : N ≤ 4096) (hG : GoodN N M) (hM : M.length ≤ 10000) (least : Int) (w : World) (h : NetAt p N M w) :
    Calls Tryz.prog 28 #[.pointer p, .int .i64 least] w fun e w' => JoinedOut w N (namH N M least) e w' := by
  have HN := Lib.hid h
  have HG := Lib.hid hG
  clear h hG
  go_enter Tryz.func28, Tryz.ntmps28
  go_wp2_with fail
  refine (num_any p N M w HN.out).mono ?_
  rintro e w1 ⟨rfl, hb1⟩
  have HB1 := Lib.hid hb1
  clear hb1
  go_wp2_with fail
  refine (new_any (N : Int) w1).mono ?_
  rw [roomN_of N hN]
  rintro e w2 ⟨cb, cg, cm, rfl, hb2, g1, g2, g3, k1⟩
  have HB2 := Lib.hid (HB1.out.trans (hb2.mono HB1.out.size))
  have HC := Lib.hid k1
  have HL := Lib.hid (And.intro g1 (And.intro g2 g3))
  clear hb2 g1 g2 g3 k1
  go_wp2_with fail
  refine (Nn.edgesO_any p N M (by omega) w2 (HN.out.over HB2.out)).mono ?_
  rintro e w3 ⟨hb3, qv, rfl, ho⟩
  obtain ⟨q, cq, e1⟩ := owns_any ho
  subst e1
  have H3 : Hid (JoSt cb cg cm w N M least (.slice q M.length cq) 0 w3) := Lib.hid ⟨HC.out.keep hb3, ⟨HB2.out.trans (hb3.mono HB2.out.size), Nat.le_trans HB1.out.size HL.out.1, Nat.le_trans HB1.out.size HL.out.2.1, Nat.le_trans HB1.out.size HL.out.2.2⟩, _, ho, HC.out.lt⟩
  clear hb3 ho HC HB1 HB2 HL
  go_wp2_with fail
  go_loopw [14] (fun i wr => ∃ k : Nat, i = .int .i64 k ∧ k ≤ M.length ∧ Hid (JoSt cb cg cm w N M least (.slice q M.length cq) k wr)) (fun i _ => M.length - (intOf i).toNat)
  case atStart => exact ⟨0, rfl, Nat.zero_le _, H3⟩
  case round =>
    clear H3
    obtain ⟨k, rfl, hk, HK⟩ := hrel
    by_cases hlt : k < M.length
    · have i1 : (k : Int) < (M.length : Int) := by omega
      have i0 : (0 : Int) ≤ (k : Int) := by omega
      obtain ⟨x, y, wt, he⟩ : ∃ x y wt, M[k] = (x, y, wt) := ⟨_, _, _, rfl⟩
      have HE := Lib.hid he
      obtain ⟨q', c', e1, hr, -⟩ := owns_readsE rfl HK.out.2.2.choose_spec.1
      cases e1
      obtain ⟨Mb, Mo, rfl, hbw, -, m0, m1, m2⟩ := hr.cells hlt (Below.refl _ _) he
      have HK1 := Lib.hid (HK.out.keep ((Below.refl wr.heap.size wr).alloc (Nat.le_refl _) (.cells #[.int .i64 x, .int .i64 y, .int .i64 wt] 54)))
      have HT := Lib.hid (ThreeAt.new wr (.int .i64 x) (.int .i64 y) (.int .i64 wt) 54)
      clear HK hr
      go_upto_region 5 with fail
      clear m0 m1 m2 hbw
      generalize wr.alloc (.cells #[.int .i64 x, .int .i64 y, .int .i64 wt] 54) = W1 at *
      generalize wr.heap.size = K at *
      obtain ⟨t0, t1, t2, -⟩ := HT.out
      have hK := HT.out.lt
      by_cases hl : least ≤ wt
      · have s1 : wt ≥ least := hl
        have HJ := Lib.hid (fun W (ht : Turns cg cm W1 W) hc => HK1.out.join hlt (by rw [he]; exact hl) ht hc)
        rw [HE.out] at HJ
        simp only at HJ
        clear he hl
        go_wp2_with fail
        refine (join_any cb cg cm N (namH N (M.take k) least) x y W1 HK1.out.1).mono ?_
        rintro e w4 ⟨rfl, t4, l4⟩
        have H4 := Lib.hid (HJ.out w4 t4 l4)
        clear t4 l4 HJ t0 t1 t2 hK
        go_wp2
        go_roundw
        case rel => exact ⟨k + 1, by go_num, hlt, H4⟩
        case measure => (simp [intOf]; omega)
      · have s1 : ¬ wt ≥ least := hl
        have H4 := Lib.hid (HK1.out.same hlt (by rw [he]; exact hl))
        clear he hl
        go_wp2
        go_roundw
        case rel => exact ⟨k + 1, by go_num, hlt, H4⟩
        case measure => (simp [intOf]; omega)
    · have hkM : k = M.length := by omega
      have i1 : ¬ (k : Int) < (M.length : Int) := by omega
      have HE : Hid (JoinedOut w N (namH N M least) (.returned (.pointer (some ⟨cb, 0, none⟩))) wr) := by
        obtain ⟨k1, k2, -⟩ := HK.out
        rw [hkM, List.take_length] at k1
        exact Lib.hid ⟨cb, cg, cm, rfl, k1, k2⟩
      clear hkM HK
      go_wp2
      go_ret
      exact HE.out
end Go.Proofs.YtmohfmhkhldhnaaGreat.Cm
