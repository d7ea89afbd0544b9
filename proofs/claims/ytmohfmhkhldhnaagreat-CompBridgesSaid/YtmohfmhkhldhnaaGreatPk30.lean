/- Texts that the laws of this seat stand on, part 30. -/
import Derived.Test.YtmohfmhkhldhnaaGreatPk26
import Derived.Test.YtmohfmhkhldhnaaGreatPk29
import Derived.Shelf.Abstract
import Derived.Test.YtmohfmhkhldhnaaGreatPk15
/- Contracts of classes, Of, Heavy, Count, named and Name. -/
namespace Go.Proofs.YtmohfmhkhldhnaaGreat.Cm
open Go.RowKit Go.ChangeShapes EdPure NtPure DsuPure CmPure Ds
theorem fold_low {n : Nat} {least : Int} : ∀ (M : List Ed), (∀ e ∈ M, 0 ≤ e.2.2 ∧ least ≤ e.2.2) → ∀ p, M.foldl (stepH n least) p = M.foldl (stepH n 0) p
  | [], _, _ => rfl
  | e :: M, h, p => by
    have h1 := h e List.mem_cons_self
    rw [List.foldl_cons, List.foldl_cons, fold_low M (fun d hd => h d (List.mem_cons_of_mem _ hd))]
    congr 1
    unfold stepH
    rw [if_pos h1.1, if_pos h1.2]
theorem nam_low {n : Nat} {M : List Ed} (hG : GoodN n M) : namH n M (-9223372036854775808) = namH n M 0 :=
  fold_low M (fun e he => by have := (hG.2.1 e he).2.2; omega) _
theorem classes_any (p : Option Addr) (N : Nat) (M : List Ed) (hN : N ≤ 4096) (hG : GoodN N M) (hM : M.length ≤ 10000) (w : World) (h : NetAt p N M w) :
    Calls Tryz.prog 26 #[.pointer p] w fun e w' => JoinedOut w N (namH N M 0) e w' := by
  have HJ := Lib.hid (joined_any p N M hN hG hM (-9223372036854775808) w h)
  rw [nam_low hG] at HJ
  clear h hG
  go_enter Tryz.func26, Tryz.ntmps26
  go_wp2_with fail
  refine HJ.out.mono ?_
  rintro e w1 ⟨cb, cg, cm, rfl, h1, h2⟩
  have HE : Hid (JoinedOut w N (namH N M 0) (.returned (.pointer (some ⟨cb, 0, none⟩))) w1) := Lib.hid ⟨cb, cg, cm, rfl, h1, h2⟩
  clear h1 h2
  go_wp2
  go_ret
  exact HE.out
theorem lists_of {w w1 : World} {N : Nat} {r : Nat → Nat} {cb cg cm : Nat} (h1 : ClsAt cb cg cm w1 N r) (h2 : Below w.heap.size w w1 ∧ w.heap.size ≤ cb ∧ w.heap.size ≤ cg ∧ w.heap.size ≤ cm) :
    Calls Tryz.prog 27 #[.pointer (some ⟨cb, 0, none⟩)] w1 fun e w' => RowsOut (listsP N r) w e w' := by
  refine (list_any cb cg cm N r w1 h1).mono ?_
  rintro e w' ⟨a, c, rfl, hr, ht, -⟩
  exact ⟨h2.1.trans (ht.below h2.1.size h2.2.2.1 h2.2.2.2), a, c, _, rfl, hr, h2.1.size⟩
theorem compOf_any (p : Option Addr) (N : Nat) (M : List Ed) (hN : N ≤ 4096) (hG : GoodN N M) (hM : M.length ≤ 10000) (w : World) (h : NetAt p N M w) :
    Calls Tryz.prog 7 #[.pointer p] w fun e w' => RowsOut (listsP N (namH N M 0)) w e w' := by
  have HJ := Lib.hid (classes_any p N M hN hG hM w h)
  clear h hG
  go_enter Tryz.func7, Tryz.ntmps7
  go_wp2_with fail
  refine HJ.out.mono ?_
  rintro e w1 ⟨cb, cg, cm, rfl, h1, h2⟩
  have HL := Lib.hid (lists_of h1 h2)
  clear h1 h2 HJ
  go_wp2_with fail
  refine HL.out.mono ?_
  rintro e w2 ⟨hb, a, c, B, rfl, hr, hB⟩
  have HE : Hid (RowsOut (listsP N (namH N M 0)) w (.returned (.slice a (listsP N (namH N M 0)).length c)) w2) := Lib.hid ⟨hb, a, c, B, rfl, hr, hB⟩
  clear hb hr hB HL
  go_wp2
  go_ret
  exact HE.out
theorem compHeavy_any (p : Option Addr) (N : Nat) (M : List Ed) (hN : N ≤ 4096) (hG : GoodN N M) (hM : M.length ≤ 10000) (least : Int) (w : World) (h : NetAt p N M w) :
    Calls Tryz.prog 8 #[.pointer p, .int .i64 least] w fun e w' => RowsOut (listsP N (namH N M least)) w e w' := by
  have HJ := Lib.hid (joined_any p N M hN hG hM least w h)
  clear h hG
  go_enter Tryz.func8, Tryz.ntmps8
  go_wp2_with fail
  refine HJ.out.mono ?_
  rintro e w1 ⟨cb, cg, cm, rfl, h1, h2⟩
  have HL := Lib.hid (lists_of h1 h2)
  clear h1 h2 HJ
  go_wp2_with fail
  refine HL.out.mono ?_
  rintro e w2 ⟨hb, a, c, B, rfl, hr, hB⟩
  have HE : Hid (RowsOut (listsP N (namH N M least)) w (.returned (.slice a (listsP N (namH N M least)).length c)) w2) := Lib.hid ⟨hb, a, c, B, rfl, hr, hB⟩
  clear hb hr hB HL
  go_wp2
  go_ret
  exact HE.out
theorem compCount_any (p : Option Addr) (N : Nat) (M : List Ed) (hN : N ≤ 4096) (hG : GoodN N M) (hM : M.length ≤ 10000) (w : World) (h : NetAt p N M w) :
    Calls Tryz.prog 10 #[.pointer p] w fun e w' => e = .returned (.int .i64 ((listsP N (namH N M 0)).length : Nat)) ∧ Below w.heap.size w w' := by
  have HJ := Lib.hid (classes_any p N M hN hG hM w h)
  rw [listsP_len]
  clear h hG
  go_enter Tryz.func10, Tryz.ntmps10
  go_wp2_with fail
  refine HJ.out.mono ?_
  rintro e w1 ⟨cb, cg, cm, rfl, h1, h2⟩
  have HC := Lib.hid h1
  have HB := Lib.hid h2.1
  clear h1 h2 HJ
  go_wp2_with fail
  refine (count_any cb cg cm N (namH N M 0) w1 HC.out).mono ?_
  rintro e w2 ⟨rfl, rfl⟩
  go_wp2
  go_ret
  exact ⟨rfl, HB.out⟩
/-- The names of the first k. -/
def nmV (N k : Nat) (r : Nat → Nat) : List Value := (List.range N).map fun i => if i < k then .int .i64 (r i : Int) else .int .i64 0
theorem nmV_len (N k : Nat) (r : Nat → Nat) : (nmV N k r).length = N := by unfold nmV; simp
theorem nmV_get {N i : Nat} (k : Nat) (r : Nat → Nat) (h : i < N) : (nmV N k r)[i]? = some (if i < k then .int .i64 (r i : Int) else .int .i64 0) := by
  unfold nmV; rw [List.getElem?_map, List.getElem?_range h]; rfl
theorem nmV_nil (N : Nat) (r : Nat → Nat) : nmV N 0 r = List.replicate N (.int .i64 0) := by
  refine List.ext_getElem? fun i => ?_
  by_cases h : i < N
  · rw [nmV_get 0 r h, if_neg (by omega)]; simp [h]
  · rw [List.getElem?_eq_none (by rw [nmV_len]; omega), List.getElem?_eq_none (by simp; omega)]
theorem nmV_all (N : Nat) (r : Nat → Nat) : nmV N N r = (nameL N r).map encZ := by
  refine List.ext_getElem? fun i => ?_
  by_cases h : i < N
  · rw [nmV_get N r h, if_pos h]
    unfold nameL
    rw [List.getElem?_map, List.getElem?_map, List.getElem?_range h]
    rfl
  · rw [List.getElem?_eq_none (by rw [nmV_len]; omega), List.getElem?_eq_none (by unfold nameL; simp; omega)]
theorem nmV_set {N k : Nat} (r : Nat → Nat) (h : k < N) : (nmV N k r).set k (.int .i64 (r k : Int)) = nmV N (k + 1) r := by
  refine List.ext_getElem? fun i => ?_
  by_cases hi : i < N
  · rw [nmV_get (k + 1) r hi]
    by_cases e : k = i
    · subst e
      rw [List.getElem?_set_self (by rw [nmV_len]; exact h), if_pos (by omega)]
    · rw [List.getElem?_set_ne e, nmV_get k r hi]
      by_cases e2 : i < k
      · rw [if_pos e2, if_pos (by omega)]
      · rw [if_neg e2, if_neg (by omega)]
  · rw [List.getElem?_eq_none (by rw [List.length_set, nmV_len]; omega), List.getElem?_eq_none (by rw [nmV_len]; omega)]
/-- While names are laid. -/
def NmdSt (cb cg cm : Nat) (w : World) (B N k : Nat) (r : Nat → Nat) (W : World) : Prop :=
  ClsAt cb cg cm W N r ∧ Turns cg cm w W ∧ RowIs B W (nmV N k r) ∧ (B < W.heap.size ∧ B ≠ cb ∧ B ≠ cg ∧ B ≠ cm ∧ w.heap.size ≤ B)
theorem NmdSt.turn {cb cg cm : Nat} {w : World} {B N k : Nat} {r : Nat → Nat} {W W' : World} (h : NmdSt cb cg cm w B N k r W) (ht : Turns cg cm W W') (hc : ClsAt cb cg cm W' N r) : NmdSt cb cg cm w B N k r W' := by
  obtain ⟨h1, h2, h3, h4, h5, h6, h7, h8⟩ := h
  exact ⟨hc, h2.trans ht, ht.row h3 h4 h6 h7, Nat.lt_of_lt_of_le h4 ht.2.2.2.1, h5, h6, h7, h8⟩
theorem NmdSt.put {cb cg cm : Nat} {w : World} {B N k : Nat} {r : Nat → Nat} {W : World} (h : NmdSt cb cg cm w B N k r W) (hk : k < N) : NmdSt cb cg cm w B N (k + 1) r (W.setCell ⟨B, k, none⟩ (.int .i64 (r k : Int))) := by
  obtain ⟨h1, h2, h3, h4, h5, h6, h7, h8⟩ := h
  have hoth : ∀ j, j ≠ B → (W.setCell ⟨B, k, none⟩ (.int .i64 (r k : Int))).heap[j]? = W.heap[j]? := fun j hj => cell_other hj
  refine ⟨h1.past (g' := B) (m' := B) ⟨rfl, rfl, rfl, by simp, fun j _ e1 _ => hoth j e1⟩ ⟨fun e => h5 e.symm, fun e => h5 e.symm⟩ ⟨fun e => h6 e.symm, fun e => h6 e.symm⟩ ⟨fun e => h7 e.symm, fun e => h7 e.symm⟩, ⟨h2.1, h2.2.1, h2.2.2.1, by have := h2.2.2.2.1; simpa using this, fun j hj e1 e2 => (hoth j (by omega)).trans (h2.2.2.2.2 j hj e1 e2)⟩, ?_, by simpa using h4, h5, h6, h7, h8⟩
  rw [← nmV_set r hk]
  exact h3.set (by rw [nmV_len]; exact hk) _
def NamedOut (cg cm : Nat) (w : World) (l : List Int) (e : Ending) (w' : World) : Prop := Turns cg cm w w' ∧ ∃ q c, e = .returned (.slice q l.length c) ∧ ReadsL encZ w'.heap.size w' q l
set_option maxRecDepth 100000 in
set_option maxHeartbeats 4000000 in
theorem named_any (cb cg cm N : Nat) (r : Nat → Nat) (hN : N ≤ 4096) (w : World) (h : ClsAt cb cg cm w N r) :
    Calls Tryz.prog 38 #[.int .i64 (N : Int), .func (.func 39) #[.pointer (some ⟨cb, 0, none⟩)] #[]] w fun e w' => NamedOut cg cm w (nameL N r) e w' := by
  have hmk := makeRow (P := Tryz.prog) (T := 32) (E := 3) (z := .int .i64 0) (c := 8) Tryz.underlying32 (by kernel_rfl) (by decide) rfl N (by omega) w
  have hA : Below w.heap.size w (w.alloc (.cells (madeCells #[.int .i64 0] N) 3)) := (Below.refl _ _).alloc (Nat.le_refl _) _
  have hlt := h.lt
  have HS : Hid (NmdSt cb cg cm w w.heap.size N 0 r (w.alloc (.cells (madeCells #[.int .i64 0] N) 3))) := Lib.hid ⟨h.keep hA, Turns.ofBelow hA, by rw [nmV_nil]; exact rowIs_made w (.int .i64 0) N 3, by simp, by omega, by omega, by omega, Nat.le_refl _⟩
  have hnl : (nameL N r).length = N := by unfold nameL; simp
  clear h hA hlt
  go_enter Tryz.func38, Tryz.ntmps38
  go_wp2_with fail
  clear hmk
  generalize w.alloc (.cells (madeCells #[.int .i64 0] N) 3) = W0 at *
  generalize hB : w.heap.size = B at *
  have HB := Lib.hid hB
  clear hB
  go_loopw [11] (fun i wr => ∃ k : Nat, i = .int .i64 k ∧ k ≤ N ∧ Hid (NmdSt cb cg cm w B N k r wr)) (fun i _ => N - (intOf i).toNat)
  case atStart => exact ⟨0, rfl, Nat.zero_le _, HS⟩
  case round =>
    clear HS
    obtain ⟨k, rfl, hk, HK⟩ := hrel
    by_cases hl : k < N
    · have i1 : (k : Int) < (N : Int) := by omega
      have i0 : (0 : Int) ≤ (k : Int) := by omega
      have HO : Hid (ofZ N r (k : Int) = (r k : Int)) := Lib.hid (of_fit' r hl)
      go_wp2_with (go_at_call 39; refine (of_any cb cg cm N r (k : Int) wr HK.out.1).mono ?_; rw [HO.out]; rintro e w2 ⟨rfl, t2, l2⟩; have H2 := Lib.hid (HK.out.turn t2 l2); obtain ⟨z, hz, fz⟩ : ∃ z, w2.cell? ⟨B, k, none⟩ = some z ∧ w2.frozen? ⟨B, k, none⟩ = false := ⟨_, H2.out.2.2.1 k (by rw [nmV_len]; exact hl)⟩; have hb2 := H2.out.2.2.2.1; have H3 := Lib.hid (H2.out.put hl); clear t2 l2 HK)
      go_roundw
      case rel => exact ⟨k + 1, by go_num, hl, H3⟩
      case measure => (simp [intOf]; omega)
    · have hkN : k = N := by omega
      have i1 : ¬ (k : Int) < (N : Int) := by omega
      subst hkN
      have HE : Hid (NamedOut cg cm w (nameL k r) (.returned (.slice (some ⟨B, 0, none⟩) k k)) wr) := Lib.hid ⟨HK.out.2.1, some ⟨B, 0, none⟩, k, by rw [hnl], RowIs.reads (by rw [← nmV_all]; exact HK.out.2.2.1)⟩
      clear HK
      go_wp2
      go_ret
      exact HE.out
end Go.Proofs.YtmohfmhkhldhnaaGreat.Cm
/- Contract of reach: a vertex gets the next place, unless it has one. -/
namespace Go.Proofs.YtmohfmhkhldhnaaGreat.Cm
open Go.RowKit Go.ChangeShapes EdPure NtPure DsuPure CmPure
set_option maxRecDepth 100000 in
theorem reachOld_any (b g : Nat) (p : Option Addr) (rv uv : Value) (R : List Nat) (U P : List Int) (x i : Nat) (u : Int) (w : World) (h : WkX b g p rv uv R U P w) (hx : P[x]? = some (i : Int)) (_hP : P.length ≤ 4096) :
    Calls Tryz.prog 55 #[.pointer (some ⟨b, 0, none⟩), .int .i64 (x : Int), .int .i64 u] w fun e w' => e = .returned (.tuple #[]) ∧ w' = w := by
  obtain ⟨rq, rc, uq, uc, rfl, rfl, ⟨-, c1, c2, c3⟩, -, ⟨hb, hg, -, -⟩, -, -⟩ := h.cells
  obtain ⟨c4, -⟩ := h.place hx
  have hxl := (List.getElem?_eq_some_iff.1 hx).1
  have a1 : (x : Int) < (P.length : Int) := by omega
  have a2 : (0 : Int) ≤ (x : Int) := by omega
  have t : ((i : Int) != -1) = true := by simp
  clear h hx
  go_enter Tryz.func55, Tryz.ntmps55
  go_wp2
  exact bodyPost_ret (results_none rfl _ _ _) rfl ⟨rfl, rfl⟩
set_option maxRecDepth 100000 in
set_option maxHeartbeats 2000000 in
theorem reachNew_any (b g : Nat) (p : Option Addr) (rv uv : Value) (R : List Nat) (U P : List Int) (x : Nat) (u : Int) (w : World) (h : WkX b g p rv uv R U P w) (hx : P[x]? = some (-1)) (_hP : P.length ≤ 4096) (hR : R.length ≤ 4096) (hU : U.length ≤ 4096) :
    Calls Tryz.prog 55 #[.pointer (some ⟨b, 0, none⟩), .int .i64 (x : Int), .int .i64 u] w fun e w' => e = .returned (.tuple #[]) ∧ WkOut b g p rv uv (R ++ [x]) (U ++ [u]) (P.set x (R.length : Int)) w w' := by
  have hxl := (List.getElem?_eq_some_iff.1 hx).1
  have H1 : Hid (∀ n, WkX b g p rv uv R U (P.set x (R.length : Int)) ((w.drewN n).setCell ⟨g, x, none⟩ (.int .i64 (R.length : Int))) ∧ Turn (WkO b g rv uv) w ((w.drewN n).setCell ⟨g, x, none⟩ (.int .i64 (R.length : Int)))) :=
    Lib.hid fun n => ⟨(h.drawn n).put hxl _, ((Turn.refl _ w).drawn n).trans (Turn.cell _ x _ (Or.inr (Or.inl rfl))) fun _ e => Or.inl e⟩
  have HX := Lib.hid h
  have hxP := Lib.hid hx
  obtain ⟨ti, hi1, hi2, hi3, hi4⟩ := info_int
  obtain ⟨rq, rc, uq, uc, rfl, rfl, ⟨-, c1, c2, c3⟩, -, ⟨hb, hg, nb, ng⟩, -, -⟩ := h.cells
  obtain ⟨c4, f4⟩ := h.place hx
  have a1 : (x : Int) < (P.length : Int) := by omega
  have a2 : (0 : Int) ≤ (x : Int) := by omega
  clear h hx
  go_enter Tryz.func55, Tryz.ntmps55
  go_wp2_with fail
  refine wp_region_still_tail 11 (by kernel_rfl) (by kernel_rfl) ?_
  have H2 := Lib.hid (H1.out 1)
  have HD := Lib.hid (HX.out.drawn 1)
  have hb1 : b < (w.drewN 1).heap.size := hb
  have hg1 : g < (w.drewN 1).heap.size := hg
  change wpStill _ _ (w.drewN 1) _ _ _
  change wpStill _ _ _ (fun a' => wpList _ _ _ _ _ (w.drewN 1)) _ _
  clear H1 c1 c2 c3 c4 f4
  obtain ⟨⟨-, c1, c2, c3⟩, -⟩ := HD.out.1.cells
  obtain ⟨c4, f4⟩ := HD.out.place (x := x) (z := -1) hxP.out
  generalize w.drewN 1 = V at *
  simp only [List.take_succ_cons, List.take_zero, List.drop_succ_cons, List.drop_zero]
  repeat still_step
  refine wpStill_nil ?_
  go_upto_region 2 with fail
  clear c1 c2 c3 c4 f4 HD HX hb hg hb1 hg1
  generalize V.setCell ⟨g, x, none⟩ (.int .i64 (R.length : Int)) = W1 at *
  obtain ⟨⟨-, c1, c2, c3⟩, -, f1, f2, -⟩ := H2.out.1.1.cells
  have hb := H2.out.1.1.lt
  have HR := Lib.hid H2.out.1.2.2.1.1
  go_upto_region 3 with (at_builtin; refine wpList_append_own_at _ rfl _ _ 32 rfl (b + 1) 3 ti (.int .i64 0) 1 8 Tryz.underlying32 hi1 hi2 hi3 hi4 rfl (by decide) (.slice rq R.length rc) R.length ((zN R).map encZ) rfl (HR.out.alloc _) ⟨W1.heap.size, 0, none⟩ 1 1 [.int .i64 (x : Int)] rfl rfl one_news (by intro u' hu; simp at hu; subst hu; rfl) (by unfold maxLen; omega) (by omega) (by simp; omega) ?_; intro v6 w6 hown6 hg6 _ hat6; obtain ⟨q6, d6, e6⟩ := owns_any hown6; subst e6; obtain ⟨⟨z0, f0, b0⟩, h6⟩ := H2.out.1.pushR (x := x) ((Below.refl _ _).alloc (Nat.le_refl _) _) hown6 hg6 hat6; have H6 := Lib.hid h6; clear hown6 hg6 hat6 h6 HR c1 c2 c3 f1 f2)
  clear z0 f0 b0 hb
  generalize w6.setCell ⟨b, 1, none⟩ (.slice q6 (R.length + 1) d6) = W2 at *
  obtain ⟨⟨-, c1, c2, c3⟩, -, f1, f2, -⟩ := H6.out.1.1.cells
  have hb := H6.out.1.1.lt
  have HR := Lib.hid H6.out.1.2.2.1.2
  go_wp2_with (at_builtin; refine wpList_append_own_at _ rfl _ _ 32 rfl (b + 1) 3 ti (.int .i64 0) 1 8 Tryz.underlying32 hi1 hi2 hi3 hi4 rfl (by decide) (.slice uq U.length uc) U.length (U.map encZ) rfl (HR.out.alloc _) ⟨W2.heap.size, 0, none⟩ 1 1 [.int .i64 u] rfl rfl one_news (by intro u' hu; simp at hu; subst hu; rfl) (by unfold maxLen; omega) (by omega) (by simp; omega) ?_; intro v7 w7 hown7 hg7 _ hat7; obtain ⟨q7, d7, e7⟩ := owns_any hown7; subst e7; obtain ⟨⟨z0, f0, b0⟩, h7⟩ := H6.out.1.pushU (u := u) ((Below.refl _ _).alloc (Nat.le_refl _) _) hown7 hg7 hat7; have H7 := Lib.hid h7; clear hown7 hg7 hat7 h7 HR c1 c2 c3 f1 f2)
  go_end0
  refine ⟨rfl, .trans H2.out.2 (fun k hk => Or.inl hk) (.trans H6.out.2.1 H6.out.2.2 ?_)⟩
  exact ⟨_, _, H7.out⟩
end Go.Proofs.YtmohfmhkhldhnaaGreat.Cm
/- Contract of Near of a graph: the list lies in a block of its own. -/
namespace Go.Proofs.YtmohfmhkhldhnaaGreat.Nn
open Go.RowKit Go.ChangeShapes EdPure NtPure
def IntOwn (l : List Int) (w : World) (e : Ending) (w' : World) : Prop := Below w.heap.size w w' ∧ ∃ v, e = .returned v ∧ w'.ownsRow w.heap.size 3 1 v l.length (l.map encZ)
set_option maxRecDepth 100000 in
theorem cloneIO_any (a : Option Addr) (c : Nat) (l : List Int) (hl : l.length ≤ 1048576) (w : World) (h : ReadsL encZ w.heap.size w a l) :
    Calls Tryz.prog 74 #[.slice a l.length c] w fun e w' => IntOwn l w e w' := by
  have HR := Lib.hid h
  clear h
  have q22 : ∀ (w : World) (a : Option Addr) (n c n' c' : Nat), (binOp .eql 32 (.slice a n c) (.slice none n' c')).run Tryz.prog w = .ok (.bool a.isNone) w := fun w a n c n' c' => Lib.run_eql_slice_nil w _ _ a n c n' c' Tryz.underlying32
  cases a with
  | none =>
    have e : l = [] := by
      rcases HR.out with h | ⟨b, off, h, -⟩
      · exact h
      · cases h
    subst e
    go_enter Tryz.func74, Tryz.ntmps74
    go_wp2
    go_ret
    exact ⟨Below.refl _ _, _, rfl, World.ownsRow_nil _ _ _ _⟩
  | some ad =>
    obtain ⟨i1, hi1, hi2, hi3, hi4⟩ := info_parts (show (Tryz.prog.info? 3).map (fun i => (i.zero, i.size, i.bytes)) = some (some (.int .i64 0), 1, 8) by kernel_rfl)
    go_enter Tryz.func74, Tryz.ntmps74
    go_wp2_with (first
      | (at_builtin; refine wpList_append_own_at _ rfl _ _ 32 rfl w.heap.size 3 i1 (.int .i64 0) 1 8 Tryz.underlying32 hi1 hi2 hi3 hi4 rfl (by decide) (.slice (some ⟨w.heap.size, 0, none⟩) 0 0) 0 [] rfl (World.ownsRow_made w #[] 0 (Nat.le_refl _) (Nat.zero_le _) (by simp)) ad l.length c (l.map encZ) rfl (by simp) (fun j u hj => reads_newsI (HR.out.over ((Below.refl w.heap.size w).alloc (Nat.le_refl _) (.cells #[] 3)) (Nat.le_refl _)) j u hj) (by intro u hu; obtain ⟨m, -, rfl⟩ := List.mem_map.1 hu; rfl) (by unfold maxLen; omega) (by omega) (by simp) ?_; intro v' w6 hown6 hg6 _ _
         have hb6 : Below w.heap.size w w6 := ((Below.refl w.heap.size w).alloc (Nat.le_refl _) (.cells #[] 3)).grown hg6 (by simp) (by intro k hk; simp [Value.ownBlock] at hk; omega)
         rw [Nat.zero_add, List.nil_append] at hown6
         have HW := Lib.hid (And.intro hown6 hb6); clear hown6 hg6 hb6)
      | go_in)
    go_ret
    exact ⟨HW.out.2, _, rfl, HW.out.1⟩
set_option maxRecDepth 100000 in
theorem nearO_any (p : Option Addr) (n : Nat) (M : List Ed) (hl : M.length ≤ 1048576) (v : Int) (w : World) (h : NetAt p n M w) :
    Calls Tryz.prog 56 #[.pointer p, .int .i64 v] w fun e w' => IntOwn (nearV n M v) w e w' := by
  have HN := Lib.hid h
  have HL : Hid ((nearV n M v).length ≤ 1048576) := Lib.hid (Nat.le_trans (nearV_len n M v) hl)
  clear h
  go_enter Tryz.func56, Tryz.ntmps56
  go_wp2_with fail
  refine (nparts_any p n M w HN.out).mono ?_
  rintro e w1 ⟨hb, pv, cv, pe, ce, rfl, -, hr⟩
  have HB := Lib.hid hb
  have HR := Lib.hid hr
  clear hb hr HN
  go_wp2_with fail
  refine (around_any pv cv n M v w1 HR.out).mono ?_
  rintro e w2 ⟨hb2, q, c2, rfl, hr2⟩
  have HB2 := Lib.hid (HB.out.trans (hb2.mono HB.out.size))
  have HR2 := Lib.hid hr2
  clear hb2 hr2 HB HR
  go_wp2_with (first | (go_at_call 74; refine (cloneIO_any q c2 (nearV n M v) HL.out w2 HR2.out).mono ?_; rintro e w3 ⟨hb3, v3, rfl, hr3⟩; obtain ⟨q3, c3, rfl, -⟩ := owns_readsL rfl hr3; have HB3 := Lib.hid (HB2.out.trans (hb3.mono HB2.out.size)); have HR3 := Lib.hid hr3; clear hb3 hr3))
  go_ret
  exact ⟨HB3.out, _, rfl, owns_mono HR3.out (HB2.out.size)⟩
end Go.Proofs.YtmohfmhkhldhnaaGreat.Nn
