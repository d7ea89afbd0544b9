/- The law's plays in memory: the program's row, and the document's beside it; contract of the law's same. -/
import Derived.Test.YthiabjmnbkhehaaDoorBkRefAbove
import Derived.Deep.RegionHeld3
namespace Go.Proofs.YthiabjmnbkhehaaDoor
open Go.RowKit Go.ChangeShapes BkPure
/-- The program's row tells D, the document's D2; both lie apart, and nothing of before is otherwise. -/
def PlayAt (w : World) (B : Bl) (b N : Nat) (D D2 : List (Nat × Nat)) (W : World) : Prop :=
  Below w.heap.size w W ∧ (∀ k, BQ B k → w.heap.size ≤ k) ∧ w.heap.size ≤ b ∧ (∀ k, GQ k → k < w.heap.size) ∧ BkAt B N D W ∧ RfB (BQ B) b N D2 W
section
variable {w W W' : World} {B : Bl} {b N : Nat} {D D2 D' : List (Nat × Nat)}
theorem PlayAt.keep (h : PlayAt w B b N D D2 W) (hb : Below W.heap.size W W') : PlayAt w B b N D D2 W' := ⟨h.1.trans (hb.mono h.1.size), h.2.1, h.2.2.1, h.2.2.2.1, h.2.2.2.2.1.keep hb, h.2.2.2.2.2.keep hb⟩
theorem PlayAt.drawn (h : PlayAt w B b N D D2 W) (n : Nat) : PlayAt w B b N D D2 (W.drewN n) := h.keep (below_drewN (Below.refl _ _) n)
/-- A call on the program's row. -/
theorem PlayAt.prog (h : PlayAt w B b N D D2 W) (d : DropOut B N D' W W') : PlayAt w B b N D' D2 W' :=
  ⟨h.1.trans (d.1.below h.1.size h.2.1), h.2.1, h.2.2.1, h.2.2.2.1, d.2, h.2.2.2.2.2.past d.1 (fun _ e => e)⟩
/-- A call on the document's row. -/
theorem PlayAt.ref (h : PlayAt w B b N D D2 W) (t : Turn (fun k => k = b) W W') (r : RfB (BQ B) b N D' W') : PlayAt w B b N D D' W' := by
  obtain ⟨h1, h2, h3, h4, ⟨h5, M, h6, h7⟩, h8⟩ := h
  have hT : ¬ BQ B b := by obtain ⟨-, -, vV, vL, -, -, -, -, h, -⟩ := h8; exact h
  exact ⟨h1.trans (t.below h1.size (fun k e => by rw [show k = b from e]; exact h3)), h2, h3, h4, ⟨h5, M, h6.past t (fun k e e2 => hT (by rw [← show k = b from e2]; exact e)) (fun k e e2 => by have := h4 k e; have e3 : k = b := e2; omega), h7⟩, r⟩
theorem PlayAt.bk (h : PlayAt w B b N D D2 W) : BkAt B N D W := h.2.2.2.2.1
theorem PlayAt.rf (h : PlayAt w B b N D D2 W) : RfB (BQ B) b N D2 W := h.2.2.2.2.2
theorem BkAt.lt (h : BkAt B N D W) : ∀ k, BQ B k → k < W.heap.size := by
  obtain ⟨h1, M, h2, h3⟩ := h
  exact h2.lt
/-- Beside both rows a variable of three parts; the document's first list. -/
def SmAt (W0 w : World) (B : Bl) (b N : Nat) (D : List (Nat × Nat)) (K : Nat) (x y : Int) (o : Bool) (q : Option Addr) (c : Nat) (W : World) : Prop :=
  PlayAt w B b N D D W ∧ ThreeAt K W (.int .i64 x) (.int .i64 y) (.bool o) ∧ W.cell? ⟨b, 1, none⟩ = some (.slice q D.length c) ∧ Turn (BQ B) W0 W
variable {K c : Nat} {x y : Int} {o : Bool} {q : Option Addr} {W0 : World}
theorem sm_cells (h : Hid (SmAt W0 w B b N D K x y o q c W)) : W.cell? ⟨K, 0, none⟩ = some (.int .i64 x) ∧ W.cell? ⟨K, 1, none⟩ = some (.int .i64 y) ∧ W.cell? ⟨K, 2, none⟩ = some (.bool o) ∧ W.cell? ⟨b, 1, none⟩ = some (.slice q D.length c) ∧ Hid (SmAt W0 w B b N D K x y o q c W) :=
  ⟨h.out.2.1.1, h.out.2.1.2.1, h.out.2.1.2.2.1, h.out.2.2.1, h⟩
theorem SmAt.keep (h : SmAt W0 w B b N D K x y o q c W) (hb : Below W.heap.size W W') : SmAt W0 w B b N D K x y o q c W' := by
  have hbl : b < W.heap.size := World.block_lt_of_cell? W _ h.2.2.1
  exact ⟨h.1.keep hb, three_same h.2.1 (hb.block K h.2.1.lt), (hb.cell (p := ⟨b, 1, none⟩) hbl).trans h.2.2.1, h.2.2.2.trans (Turn.ofBelow (O := BQ B) hb) (fun _ e => Or.inl e)⟩
theorem sm_keep (h : Hid (SmAt W0 w B b N D K x y o q c W)) (hb : Below W.heap.size W W') : W'.cell? ⟨K, 0, none⟩ = some (.int .i64 x) ∧ W'.cell? ⟨K, 1, none⟩ = some (.int .i64 y) ∧ W'.cell? ⟨K, 2, none⟩ = some (.bool o) ∧ W'.cell? ⟨b, 1, none⟩ = some (.slice q D.length c) ∧ Hid (SmAt W0 w B b N D K x y o q c W') :=
  sm_cells (Lib.hid (h.out.keep hb))
set_option maxRecDepth 100000 in
set_option maxHeartbeats 8000000 in
theorem same_run (W : World) (v l : Int) (h : PlayAt w B b N D D W) :
    Calls Tryd.prog 12 #[.pointer (some ⟨B.b, 0, none⟩), .pointer (some ⟨b, 0, none⟩), .int .i64 v, .int .i64 l] W fun e W' => e = .returned (.bool true) ∧ PlayAt w B b N D D W' ∧ Turn (BQ B) W W' := by
  have H := Lib.hid h
  have hle := h.rf.once.2.2
  clear h
  obtain ⟨x, hx⟩ : ∃ x, topV (topD D) = x := ⟨_, rfl⟩
  obtain ⟨y, hy⟩ : ∃ y, topL (topD D) = y := ⟨_, rfl⟩
  obtain ⟨o, ho⟩ : ∃ o, (topD D).isSome = o := ⟨_, rfl⟩
  have HX := Lib.hid hx
  have HY := Lib.hid hy
  have HOo := Lib.hid ho
  clear hx hy ho
  go_enter Tryd.func12, Tryd.ntmps12
  go_wp2_with fail
  refine (highR_run W H.out.rf).mono ?_
  rintro e w2 ⟨rfl, hb2⟩
  rw [HX.out, HY.out, HOo.out]
  have H2 := Lib.hid (H.out.keep hb2)
  have HT : Hid (∀ w4, Turn (BQ B) (w2.alloc (.cells #[.int .i64 x, .int .i64 y, .bool o] 55)) w4 → Turn (BQ B) W w4) := Lib.hid fun w4 t => (Turn.ofBelow (O := BQ B) (hb2.alloc hb2.size _)).trans t (fun _ e => Or.inl e)
  have hal := (Below.refl w2.heap.size w2).alloc (Nat.le_refl _) (.cells #[.int .i64 x, .int .i64 y, .bool o] 55)
  have H3 := Lib.hid (H2.out.keep hal)
  have T3 := Lib.hid (ThreeAt.new w2 (.int .i64 x) (.int .i64 y) (.bool o) 55)
  clear hb2 hal H
  go_wp2_with fail
  refine (high_run _ H3.out.bk).mono ?_
  rintro e w4 ⟨rfl, hd⟩
  rw [HX.out, HY.out, HOo.out]
  have H4 := Lib.hid (H3.out.prog hd)
  have T4 := Lib.hid (three_same T3.out (hd.1.2.2.2.2 w2.heap.size (by simp) (fun e => by have := H2.out.bk.lt _ e; omega)))
  have HT4 := Lib.hid (HT.out w4 hd.1)
  clear hd H3 T3 HT
  obtain ⟨q, c, -, -, ⟨-, c1, -⟩, hbb, -⟩ := H4.out.rf.cells
  have HS : Hid (SmAt W w B b N D w2.heap.size x y o q c w4) := Lib.hid ⟨H4.out, T4.out, c1, HT4.out⟩
  clear H4 T4 H2
  generalize w2.heap.size = K at *
  obtain ⟨k0, k1, k2, k3, -⟩ := sm_cells HS
  clear c1 HX HY HOo
  have s0 : (x == x) = true := beq_self_eq_true _
  have s1 : (y == y) = true := beq_self_eq_true _
  have s2 : (o == o) = true := beq_self_eq_true _
  have s3 : ((D.length : Int) == (D.length : Int)) = true := beq_self_eq_true _
  obtain ⟨lv, hlv⟩ : ∃ x, labD D v = x := ⟨_, rfl⟩
  obtain ⟨cl, hcl⟩ : ∃ x : Int, (cntD D l : Int) = x := ⟨_, rfl⟩
  have HLv := Lib.hid hlv
  have HCl := Lib.hid hcl
  have s4 : (lv == lv) = true := beq_self_eq_true _
  have s5 : (cl == cl) = true := beq_self_eq_true _
  have HUp : Hid ((R9.upP (abvP D l) N).length ≤ 1000000000) := Lib.hid (by have := R9.upP_len (abvP D l) N; have := HS.out.1.rf.once.1; omega)
  clear hlv hcl
  go_wp2_with fail
  go_region_held3 (fun W' => W'.cell? ⟨K, 0, none⟩ = some (.int .i64 x) ∧ W'.cell? ⟨K, 1, none⟩ = some (.int .i64 y) ∧ W'.cell? ⟨K, 2, none⟩ = some (.bool o) ∧ W'.cell? ⟨b, 1, none⟩ = some (.slice q D.length c) ∧ Hid (SmAt W w B b N D K x y o q c W'))
    (first
      | exact sm_keep HS ((Below.refl _ _).drew)
      | (go_split_ands; exact sm_keep (by assumption) hb7)
      | (go_split_ands; exact sm_keep (by assumption) hb8)
      | (go_split_ands; exact sm_keep (by assumption) hb9)
      | (go_split_ands; exact sm_keep (by assumption) hb10)
      | go_keep)
    (first
      | (go_at_call 17; go_split_ands; refine (len_run _ ((by assumption : Hid (SmAt W w B b N D K x y o q c _)).out.1.bk)).mono ?_; rintro e v1 ⟨rfl, rfl⟩)
      | (go_at_call 14; go_split_ands; refine (label_run v _ ((by assumption : Hid (SmAt W w B b N D K x y o q c _)).out.1.bk)).mono ?_; rintro e v2 ⟨rfl, hb7⟩; rw [HLv.out])
      | (go_at_call 22; go_split_ands; refine (labelR_run _ v ((by assumption : Hid (SmAt W w B b N D K x y o q c _)).out.1.rf)).mono ?_; rintro e v3 ⟨rfl, rfl⟩; rw [HLv.out])
      | (go_at_call 15; go_split_ands; refine (count_run l _ ((by assumption : Hid (SmAt W w B b N D K x y o q c _)).out.1.bk)).mono ?_; rintro e v4 ⟨rfl, rfl⟩; rw [HCl.out])
      | (go_at_call 23; go_split_ands; refine (countR_run _ l ((by assumption : Hid (SmAt W w B b N D K x y o q c _)).out.1.rf)).mono ?_; rintro e v5 ⟨rfl, rfl⟩; rw [HCl.out])
      | (go_at_call 16; go_split_ands; refine (above_run l _ ((by assumption : Hid (SmAt W w B b N D K x y o q c _)).out.1.bk)).mono ?_; rintro e v6 ⟨u6, rfl, q6, d6, rfl, r6, hb8⟩; have R6 := Lib.hid r6; clear r6)
      | (go_at_call 25; go_split_ands; refine (aboveR_run _ l ((by assumption : Hid (SmAt W w B b N D K x y o q c _)).out.1.rf)).mono ?_; rintro e v7 ⟨u7, rfl, q7, d7, rfl, r7, hb9⟩; have R7 := Lib.hid r7; have R6' := Lib.hid (R6.out.over hb9 (Nat.le_refl _)); clear r7)
      | (go_at_call 24; go_split_ands; refine (ints_any q6 q7 d6 d7 _ _ v7 R6'.out R7.out HUp.out).mono ?_; rintro e v8 ⟨rfl, m8, rfl⟩; rw [decide_eq_true (rfl : R9.upP (abvP D l) N = R9.upP (abvP D l) N)]; have hb10 := below_drewN (Below.refl v7.heap.size v7) m8))
  go_wp2
  go_ret
  have HE := (by assumption : _ ∧ _ ∧ _ ∧ _ ∧ Hid (SmAt W w B b N D K x y o q c _)).2.2.2.2.out
  exact ⟨rfl, HE.1, HE.2.2.2⟩
end
end Go.Proofs.YthiabjmnbkhehaaDoor
