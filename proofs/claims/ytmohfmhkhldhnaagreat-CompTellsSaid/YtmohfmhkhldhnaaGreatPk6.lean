/- List of classes: all of them by what they are called, each rising. -/
import Derived.Test.YtmohfmhkhldhnaaGreatPk4
import Derived.Test.YtmohfmhkhldhnaaGreatPk5
namespace Go.Proofs.YtmohfmhkhldhnaaGreat.Ds
open Go.RowKit Go.ChangeShapes Go.Maps DsuPure
/-- In the midst of List: the lists L so far, and at pm the places of the names below j. -/
def ListRel (b g m : Nat) (w : World) (n : Nat) (p : Nat → Nat) (pm : Nat) (lv : Value) (vs : List Value) (L : List (List Int)) (j : Nat) (D : DataW Unit) (W : World) : Prop :=
  Turns g m w W ∧ ClsAt b g m W n p ∧ (b < w.heap.size ∧ g < w.heap.size ∧ m < w.heap.size ∧ w.heap.size ≤ pm) ∧ LAt w.heap.size W lv vs L ∧ OwnsD W pm (rootsN j p) D ∧ IsMap D ∧
  ∀ r, p r = r → r < j → D.atKey (kI (r : Int)) (dI 0) = dI (rootsN r p : Int)
theorem map_block {w : World} {m k : Nat} {D : DataW Unit} (h : OwnsD w m k D) : ∃ es clock, w.heap[m]? = some (.map es clock) := by
  obtain ⟨es, clock, hb, -⟩ := h
  exact ⟨es, clock, hb⟩
theorem Turns.grownNew {g m : Nat} {w W W' : World} {row : Option Nat} (h : Turns g m w W) (hg : W.grownBy W' row) (hr : ∀ k, row = some k → w.heap.size ≤ k) : Turns g m w W' := by
  obtain ⟨h1, h2, h3, h4, h5⟩ := h
  exact ⟨hg.os.trans h1, hg.tape.trans h2, hg.output.trans h3, Nat.le_trans h4 hg.size, fun k hk e1 e2 => (hg.block k (by omega) (fun e => by have := hr k e.symm; omega)).trans (h5 k hk e1 e2)⟩
theorem ClsAt.grown {b g m : Nat} {w w' : World} {n : Nat} {p : Nat → Nat} {row : Option Nat} (h : ClsAt b g m w n p) (hg : w.grownBy w' row) (h1 : some b ≠ row) (h2 : some g ≠ row) (h3 : some m ≠ row) : ClsAt b g m w' n p := by
  have hl := h.lt
  have e1 := hg.block b hl.1 h1
  have e2 := hg.block g hl.2.1 h2
  have e3 := hg.block m hl.2.2 h3
  obtain ⟨a1, a2, a3, a4, a5, a6, ⟨c0, c1, f0, f1⟩, ⟨us, a8, a9⟩, D, b1, b2⟩ := h
  exact ⟨a1, a2, a3, a4, a5, Nat.lt_of_lt_of_le a6 hg.size, ⟨(World.cell?_of_block e1).trans c0, (World.cell?_of_block e1).trans c1, (World.frozen?_of_block e1).trans f0, (World.frozen?_of_block e1).trans f1⟩,
    ⟨us, a8, fun i hi => ⟨(World.cell?_of_block e2).trans (a9 i hi).1, (World.frozen?_of_block e2).trans (a9 i hi).2⟩⟩, D, map_over b1 e3, b2⟩
section
variable {b g m n pm j : Nat} {w W W' : World} {p : Nat → Nat} {lv : Value} {vs : List Value} {L : List (List Int)} {D : DataW Unit}
/-- Over a call that turns the classes. -/
theorem ListRel.turn (h : ListRel b g m w n p pm lv vs L j D W) (ht : Turns g m W W') (hc : ClsAt b g m W' n p) : ListRel b g m w n p pm lv vs L j D W' := by
  obtain ⟨a1, a2, a3, a4, a5, a6, a7⟩ := h
  exact ⟨a1.trans ht, hc, a3, a4.past (fun k h1 h2 => ht.2.2.2.2 k h2 (by omega) (by omega)), map_over a5 (ht.2.2.2.2 pm a5.lt (by omega) (by omega)), a6, a7⟩
theorem ListRel.keep (h : ListRel b g m w n p pm lv vs L j D W) (hb : Below W.heap.size W W') : ListRel b g m w n p pm lv vs L j D W' := h.turn (Turns.ofBelow hb) (h.2.1.keep hb)
/-- A name's place is told. -/
theorem ListRel.place (h : ListRel b g m w n p pm lv vs L j D W) (hj : p j = j) (hL : L.length = rootsN j p) (hD : OwnsD W' pm (rootsN j p + 1) (D.put (kI (j : Int)) (dI (L.length : Int)))) (hg : W.grownBy W' (some pm)) : ListRel b g m w n p pm lv vs L (j + 1) (D.put (kI (j : Int)) (dI (L.length : Int))) W' := by
  rw [hL] at hD ⊢
  obtain ⟨a1, a2, a3, a4, a5, a6, a7⟩ := h
  obtain ⟨es, clock, hmb⟩ := map_block a5
  have hno := a4.no_map hmb
  refine ⟨a1.grownNew hg (fun k e => by cases e; exact a3.2.2.2), a2.grown hg (fun e => by cases e; omega) (fun e => by cases e; omega) (fun e => by cases e; omega), a3, a4.kept hg hno.1 hno.2, ?_, a6.put _ _, fun r hr hrj => ?_⟩
  · rw [rootsN_succ, if_pos hj]; exact hD
  · by_cases e : r = j
    · subst e
      exact atKey_put_same a6 (kI_key _) _ _
    · rw [atKey_put_other (kI_ne (by omega))]
      exact a7 r hr (by omega)
theorem ListRel.skip (h : ListRel b g m w n p pm lv vs L j D W) (hj : p j ≠ j) : ListRel b g m w n p pm lv vs L (j + 1) D W := by
  obtain ⟨a1, a2, a3, a4, a5, a6, a7⟩ := h
  refine ⟨a1, a2, a3, a4, by rw [rootsN_succ, if_neg hj]; exact a5, a6, fun r hr hrj => a7 r hr ?_⟩
  have : r ≠ j := fun e => hj (by rw [← e]; exact hr)
  omega
/-- A list is put behind. -/
theorem ListRel.push {w1 w2 : World} {v lv' : Value} (h : ListRel b g m w n p pm lv vs L j D W) (hb : Below W.heap.size W w1) (hv : w1.ownsRow w.heap.size 3 1 v 0 []) (hn : ∀ k, v.ownBlock = some k → W.heap.size ≤ k)
    (hown : w2.ownsRow w.heap.size 32 1 lv' (L.length + 1) (vs ++ [v])) (hg : w1.grownBy w2 lv.ownBlock) (hat : lv'.ownBlock = lv.ownBlock ∨ lv'.ownBlock = some w1.heap.size) : ListRel b g m w n p pm lv' (vs ++ [v]) (L ++ [[]]) j D w2 := by
  have hk := h.keep hb
  obtain ⟨a1, a2, a3, a4, a5, a6, a7⟩ := h
  obtain ⟨k1, k2, k3, k4, k5, k6, k7⟩ := hk
  obtain ⟨es, clock, hmb⟩ := map_block k5
  have hl := k4.lt.1
  have hno := (k4.no_map hmb).1
  refine ⟨k1.grownNew hg (fun k e => (hl k e).1), k2.grown hg (fun e => by have := (hl b e.symm).1; omega) (fun e => by have := (hl g e.symm).1; omega) (fun e => by have := (hl m e.symm).1; omega), a3, a4.push hb hv hn hown hg hat, ?_, a6, a7⟩
  refine map_over k5 (hg.block pm k5.lt (fun e => ?_))
  rcases hno with hno | hno
  · rw [hno] at e; cases e
  · exact hno e.symm
/-- A number is put behind a list. -/
theorem ListRel.put {w1 w2 : World} {v v' : Value} {l : List Int} {x : Int} {G cap i : Nat} (h : ListRel b g m w n p pm (.slice (some ⟨G, 0, none⟩) L.length cap) vs L j D W) (hb : Below W.heap.size W w1) (hv : vs[i]? = some v) (hl : L[i]? = some l)
    (hown : w2.ownsRow w.heap.size 3 1 v' (l.length + 1) (l.map encZ ++ [encZ x])) (hg : w1.grownBy w2 v.ownBlock) (hat : v'.ownBlock = v.ownBlock ∨ v'.ownBlock = some w1.heap.size) :
    ListRel b g m w n p pm (.slice (some ⟨G, 0, none⟩) L.length cap) (vs.set i v') (L.set i (l ++ [x])) j D (w2.setCell ⟨G, i, none⟩ v') := by
  have hk := h.keep hb
  obtain ⟨a1, a2, a3, a4, a5, a6, a7⟩ := h
  obtain ⟨k1, k2, k3, k4, k5, k6, k7⟩ := hk
  obtain ⟨es, clock, hmb⟩ := map_block k5
  have hvl : ∀ k, v.ownBlock = some k → w.heap.size ≤ k := fun k e => (k4.lt.2 i v k hv e).1
  have hno := (k4.no_map hmb).2 i v hv
  have t1 := k1.grownNew hg hvl
  have c1 := k2.grown hg (fun e => by have := hvl b e.symm; omega) (fun e => by have := hvl g e.symm; omega) (fun e => by have := hvl m e.symm; omega)
  have m1 : OwnsD w2 pm (rootsN j p) D := map_over k5 (hg.block pm k5.lt (fun e => by
    rcases hno with hno | hno
    · rw [hno] at e; cases e
    · exact hno e.symm))
  have hG : w.heap.size ≤ G := (a4.lt.1 G rfl).1
  have hs : w2.grownBy (w2.setCell ⟨G, i, none⟩ v') (some G) := ⟨rfl, rfl, rfl, by simp, fun k _ hk => Below.heap_setCell _ _ _ k (fun e => hk (by rw [e]))⟩
  refine ⟨t1.grownNew hs (fun k e => by cases e; exact hG), c1.grown hs (fun e => by cases e; omega) (fun e => by cases e; omega) (fun e => by cases e; omega), a3, a4.put hb hv hl hown hg hat, ?_, a6, a7⟩
  refine map_over m1 (hs.block pm m1.lt (fun e => ?_))
  have e' : pm = G := Option.some.inj e
  subst e'
  have := (k4.no_map hmb).1
  rcases this with k | k
  · cases k
  · exact k rfl
/-- The place of a row, behind an append. -/
theorem ListRel.slot {w1 w2 : World} {v : Value} {G cap i : Nat} (h : ListRel b g m w n p pm (.slice (some ⟨G, 0, none⟩) L.length cap) vs L j D W) (hv : vs[i]? = some v) (hb : Below W.heap.size W w1) (hg : w1.grownBy w2 v.ownBlock) : w2.cell? ⟨G, i, none⟩ = some v ∧ w2.frozen? ⟨G, i, none⟩ = false := by
  have hi : i < L.length := by rw [← h.2.2.2.1.1]; exact (List.getElem?_eq_some_iff.1 hv).1
  have hk := (h.keep hb).2.2.2.1
  have hne : (Value.slice (some ⟨G, 0, none⟩) L.length cap).ownBlock = none ∨ (Value.slice (some ⟨G, 0, none⟩) L.length cap).ownBlock ≠ v.ownBlock := by
    rcases hk.2.2.2.2 i v hv with k | k
    · rw [k]; exact Or.inr (by simp [Value.ownBlock])
    · exact Or.inr fun e => k e.symm
  have ho := hk.2.1.kept hg hne
  exact ⟨(ho.cellAt i (by omega)).trans hv, ho.frozenAt i⟩
theorem ListRel.cell {v : Value} {G cap i : Nat} (h : ListRel b g m w n p pm (.slice (some ⟨G, 0, none⟩) L.length cap) vs L j D W) (hv : vs[i]? = some v) : W.cell? ⟨G, i, none⟩ = some v := by
  have hi : i < L.length := by rw [← h.2.2.2.1.1]; exact (List.getElem?_eq_some_iff.1 hv).1
  exact (h.2.2.2.1.2.1.cellAt i (by omega)).trans hv
set_option maxRecDepth 100000 in
theorem ListRel.look (h : ListRel b g m w n p pm lv vs L j D W) {r : Nat} (hr : p r = r) (hrj : r < j) (hj : j ≤ 4096) : (Instr.lookup 98 (.map (some pm)) (.int .i64 (r : Int)) false).run Tryz.prog W = .ok (.int .i64 (rootsN r p : Int)) W := by
  obtain ⟨a1, a2, a3, a4, a5, a6, a7⟩ := h
  obtain ⟨c, hrun, hat, -⟩ := a5.lookup_int law Tryz.underlying98 Tryz.underlying3 (zeroI W) (keyI (z := (r : Int)) (by omega) (by omega))
  have := hat.symm.trans (a7 r hr hrj)
  unfold dI at this
  injection this with e
  injection e with _ e
  rw [hrun, e]
end
theorem cls_look {b g m n : Nat} {w : World} {p : Nat → Nat} (h : ClsAt b g m w n p) {z : Int} (h0 : -9223372036854775808 ≤ z) (h1 : z ≤ 9223372036854775807) :
    (Instr.lookup 98 (.map (some m)) (.int .i64 z) false).run Tryz.prog w = .ok (.int .i64 (cntZ n p z)) w := by
  obtain ⟨D, hD, hM⟩ := h.2.2.2.2.2.2.2.2
  exact look_any hD hM h0 h1
theorem make_lists (k : Nat) (hk : k ≤ 1000000) (w : World) :
    (Instr.makeSlice 29 (.int .i64 0) (.int .i64 (k : Int))).run Tryz.prog w = .ok (.slice (some ⟨w.heap.size, 0, none⟩) 0 k) (w.alloc (.cells (madeCells #[.slice none 0 0] k) 32)) :=
  makeCap Tryz.underlying29 (z := .slice none 0 0) (c := 24) (by kernel_rfl) (by omega) rfl k hk w
theorem make_list (k : Nat) (hk : k ≤ 1000000) (w : World) :
    (Instr.makeSlice 32 (.int .i64 0) (.int .i64 (k : Int))).run Tryz.prog w = .ok (.slice (some ⟨w.heap.size, 0, none⟩) 0 k) (w.alloc (.cells (madeCells #[.int .i64 0] k) 3)) :=
  makeCap Tryz.underlying32 (z := .int .i64 0) (c := 8) (by kernel_rfl) (by omega) rfl k hk w
theorem list_start {b g m n : Nat} {w : World} {p : Nat → Nat} (h : ClsAt b g m w n p) (R : Nat) (hR : R ≤ 4096) :
    ListRel b g m w n p (w.heap.size + 1) (.slice (some ⟨w.heap.size, 0, none⟩) 0 R) [] [] 0 (.map []) ((w.alloc (.cells (madeCells #[.slice none 0 0] R) 32)).alloc (.map #[] 0)) := by
  have hl := h.lt
  have b1 := (Below.refl w.heap.size w).alloc (Nat.le_refl _) (.cells (madeCells #[.slice none 0 0] R) 32)
  have l1 : LAt w.heap.size (w.alloc (.cells (madeCells #[.slice none 0 0] R) 32)) (.slice (some ⟨w.heap.size, 0, none⟩) 0 R) [] [] := LAt.made w _ R (Nat.le_refl _) (by unfold maxLen; omega) (size_made _ _)
  generalize hw1 : w.alloc (.cells (madeCells #[.slice none 0 0] R) 32) = w1 at *
  have s1 : w1.heap.size = w.heap.size + 1 := by rw [← hw1]; simp
  have m1 : OwnsD (w1.alloc (.map #[] 0)) w1.heap.size 0 (.map []) := World.ownsMap_made w1 _ _ _
  have b2 := (Below.refl w1.heap.size w1).alloc (Nat.le_refl _) (.map #[] 0)
  rw [s1] at m1
  have b3 := b1.trans (b2.mono (by omega))
  exact ⟨Turns.ofBelow b3, h.keep b3, ⟨hl.1, hl.2.1, hl.2.2, by omega⟩, l1.keep b2, m1, isMap_empty, fun r _ hr => by omega⟩
theorem list_nil (w : World) :
    Calls Tryz.prog 27 #[.pointer none] w fun e w' => ∃ a c, e = .returned (.slice a 0 c) ∧ Below w.heap.size w w' := by
  have h1 := fun w => make_lists 0 (by omega) w
  have h2 := fun w => make_map 0 w
  have h1' : ∀ w, (Instr.makeSlice 29 (.int .i64 0) (.int .i64 0)).run Tryz.prog w = .ok (.slice (some ⟨w.heap.size, 0, none⟩) 0 0) (w.alloc (.cells (madeCells #[.slice none 0 0] 0) 32)) := h1
  have HB := Lib.hid (fun c d => ((Below.refl w.heap.size w).alloc (Nat.le_refl _) c).alloc (by simp) d)
  clear h1
  go_enter Tryz.func27, Tryz.ntmps27
  go_wp2_with (first | (go_at_call 33; refine (count_nil _).mono ?_; rintro e w' ⟨rfl, rfl⟩) | (go_at_call 50; refine (room_nil _).mono ?_; rintro e w' ⟨rfl, rfl⟩))
  refine wp_loop_rounds 1 ?_
  rw [rounds_succ]
  go_wp2
  go_ret
  exact ⟨_, _, rfl, HB.out _ _⟩
set_option maxRecDepth 100000 in
set_option maxHeartbeats 4000000 in
theorem list_any (b g m n : Nat) (p : Nat → Nat) (w : World) (h : ClsAt b g m w n p) :
    Calls Tryz.prog 27 #[.pointer (some ⟨b, 0, none⟩)] w fun e w' => ∃ a c, e = .returned (.slice a (listsP n p).length c) ∧ RowsAt w.heap.size w' a (listsP n p) ∧ Turns g m w w' ∧ ClsAt b g m w' n p := by
  have hn := h.1
  have HC := Lib.hid h
  have hR := rootsN_le n p
  have h1 := fun w => make_lists (rootsN n p) (by omega) w
  have h2 := fun w => make_map (rootsN n p) w
  have HS := Lib.hid (list_start h (rootsN n p) (by omega))
  have HQ := Lib.hid h.2.1
  clear h
  go_enter Tryz.func27, Tryz.ntmps27
  go_wp2_with (first | (go_at_call 33; refine (count_any b g m n p _ (by first | exact HC.out | exact HC.out.keep ((Below.refl _ _).alloc (Nat.le_refl _) _))).mono ?_; rintro e w' ⟨rfl, rfl⟩) | (go_at_call 50; refine (room_any b g m n p _ HS.out.2.1).mono ?_; rintro e w' ⟨rfl, rfl⟩))
  clear h1 h2 HC
  obtain ⟨j1, hj1, hj2, hj3, hj4⟩ := info_parts (show (Tryz.prog.info? 32).map (fun i => (i.zero, i.size, i.bytes)) = some (some (.slice none 0 0), 1, 24) by kernel_rfl)
  obtain ⟨i1, hi1, hi2, hi3, hi4⟩ := info_parts (show (Tryz.prog.info? 3).map (fun i => (i.zero, i.size, i.bytes)) = some (some (.int .i64 0), 1, 8) by kernel_rfl)
  generalize hpm : w.heap.size + 1 = pm at *
  have HP : Hid (w.heap.size ≤ pm) := Lib.hid (by omega)
  clear hpm
  generalize ((w.alloc (.cells (madeCells #[.slice none 0 0] (rootsN n p)) 32)).alloc (.map #[] 0)) = W0 at *
  go_loopw [3, 16] (fun v i wr => ∃ (k : Nat) (vs : List Value) (D : DataW Unit), i = .int .i64 k ∧ k ≤ n ∧ Hid (ListRel b g m w n p pm v vs (listsP k p) k D wr)) (fun _ i _ => n - (intOf i).toNat)
  case atStart => exact ⟨0, [], _, rfl, Nat.zero_le _, HS⟩
  case round =>
    obtain ⟨k, vs, D, rfl, hk, HL⟩ := hrel
    clear HS
    have i0 : (0 : Int) ≤ (k : Int) := by omega
    obtain ⟨la, lc, e, hrows⟩ := HL.out.2.2.2.1.rows
    subst e
    by_cases hlt : k < n
    · have i1' : (k : Int) < (n : Int) := by omega
      have HF := Lib.hid (fit_of hlt)
      clear hrows
      go_wp2_with fail
      refine (of_fit b g m n p k wr HL.out.2.1 hlt).mono ?_
      rintro e w1 ⟨rfl, t1, k1⟩
      have HL1 := Lib.hid (HL.out.turn t1 k1)
      clear t1 k1 HL
      have HSu := Lib.hid (lists_succ HQ.out k)
      have HGr := Lib.hid (grown_at HQ.out k)
      have hkk := rootsN_le k p
      have HLn := Lib.hid (listsP_len k p)
      have HGn := Lib.hid (grownL_len k p)
      by_cases hroot : p k = k
      · have HRT := Lib.hid hroot
        have HG := Lib.hid (grown_root HQ.out hroot)
        rw [hroot]
        have hcnt := cntZ_le n p (k : Int)
        clear hroot
        generalize listsP k p = L at *
        have hL4 : L.length ≤ 4096 := by rw [HLn.out]; omega
        go_upto_region 9 with (first
          | (at_mapUpdate; refine wpList_mapUpdate_own _ rfl _ _ _ 98 rfl 3 3 law Tryz.underlying98 _ pm (rootsN k p) D rfl HL1.out.2.2.2.2.1 (by unfold maxLen; omega) _ _ (kI (k : Int)) rfl rfl (keyI (by omega) (by omega)) (dI (L.length : Int)) [] (plainElem_int Tryz.underlying3 (WalkArith.wf_i64 (by omega))) ?_; intro w4 hown4 hg4; have HL4 := Lib.hid (HL1.out.place HRT.out HLn.out hown4 hg4); clear hg4 hown4 HL1)
          | go_in)
        obtain ⟨c0, c1⟩ := cls_cells HL4.out.2.1
        have hlk := cls_look HL4.out.2.1 (z := (k : Int)) (by omega) (by omega)
        have hmk := fun w => make_list (cntZ n p (k : Int)) (by omega) w
        have HLB := Lib.hid (show w.heap.size ≤ w4.heap.size from HL4.out.1.2.2.2.1)
        generalize cntZ n p (k : Int) = C at *
        go_upto_region 10 with (first
          | (at_builtin; refine wpList_append_own_at _ rfl _ _ 29 rfl w.heap.size 32 j1 (.slice none 0 0) 1 24 Tryz.underlying29 hj1 hj2 hj3 hj4 rfl (by decide) (.slice la L.length lc) L.length vs rfl ((HL4.out.2.2.2.1.2.1.alloc _).alloc _) ⟨w4.heap.size + 1, 0, none⟩ 1 1 [.slice (some ⟨w4.heap.size, 0, none⟩) 0 C] rfl rfl (one_newsAt (by simp)) (by intro u hu; simp at hu; subst hu; rfl) (by unfold maxLen; omega) (by omega) (by have := HLB.out; simp; omega) ?_; intro v' w5 hown5 hg5 _ hat5)
          | go_in)
        have hrow0 : (w4.alloc (.cells (madeCells #[.int .i64 0] C) 3)).ownsRow w.heap.size 3 1 (.slice (some ⟨w4.heap.size, 0, none⟩) 0 C) 0 [] := World.ownsRow_made w4 _ C HLB.out (by unfold maxLen; omega) (by rw [size_made, Nat.mul_one])
        have hb0 := ((Below.refl w4.heap.size w4).alloc (Nat.le_refl _) (.cells (madeCells #[.int .i64 0] C) 3)).alloc (by simp) (.cells #[.slice (some ⟨w4.heap.size, 0, none⟩) 0 C] 32)
        have hL5 := HL4.out.push hb0 (hrow0.alloc _) (fun k e => by cases e; exact Nat.le_refl _) hown5 hg5 hat5
        rw [← HG.out] at hL5
        obtain ⟨vs5, hvs5⟩ : ∃ vs5, vs5 = vs ++ [.slice (some ⟨w4.heap.size, 0, none⟩) 0 C] := ⟨_, rfl⟩
        rw [← hvs5] at hL5
        have HL5 := Lib.hid hL5
        clear hL5 hb0 hrow0 hown5 hg5 hat5 hvs5 hmk hlk c0 c1 HL4 HG
        obtain ⟨r, hr⟩ : ∃ r, r = k := ⟨_, rfl⟩
        have HR1 : Hid (p r = r) := Lib.hid (by rw [hr]; exact HRT.out)
        have HR2 : Hid (r < k + 1) := Lib.hid (by omega)
        have HR3 : Hid (r = p k) := Lib.hid (by rw [hr]; exact HRT.out.symm)
        obtain ⟨G, cap, e⟩ := HL5.out.2.2.2.1.form (by rw [HGn.out]; have := rank_lt HR1.out HR2.out; omega)
        subst e
        have hlk2 := HL5.out.look HR1.out HR2.out (by omega)
        have hj1' := rank_lt HR1.out HR2.out
        have HJ := HGr.out
        rw [← HR3.out] at HJ
        obtain ⟨v, hv⟩ : ∃ v, vs5[rootsN r p]? = some v := ⟨_, List.getElem?_eq_getElem (by rw [HL5.out.2.2.2.1.1, HGn.out]; exact hj1')⟩
        have hc5 := HL5.out.cell hv
        have HV := Lib.hid hv
        have HJ2 := Lib.hid HJ
        have hrow := Lib.hid (HL5.out.2.2.2.1.2.2.1 _ _ _ hv HJ)
        have hll := rowL_le k p r
        have HSl := Lib.hid (fun w1 w2 hb hg => HL5.out.slot (w1 := w1) (w2 := w2) hv hb hg)
        have HPut := Lib.hid (fun w1 w2 v' hb hown hg hat => HL5.out.put (w1 := w1) (w2 := w2) (v' := v') (x := (k : Int)) hb hv HJ hown hg hat)
        have HLB5 := Lib.hid (show w.heap.size ≤ w5.heap.size from HL5.out.1.2.2.2.1)
        have hlen5 : rootsN r p < (grownL k p).length := by rw [HGn.out]; exact hj1'
        have HSu2 := HSu.out
        rw [← HR3.out] at HSu2
        have HSu3 := Lib.hid HSu2
        clear hv HJ HSu2 HGn HGr HSu HL5 HR3
        generalize rowL k p r = l at *
        generalize grownL k p = GL at *
        generalize rootsN r p = J at *
        rw [hr] at hlk2
        clear hr
        have q0 : (0 : Int) ≤ (J : Int) := by omega
        have q1 : (J : Int) < (GL.length : Int) := by omega
        go_wp2_with (first
          | (at_builtin; refine wpList_append_own_at _ rfl _ _ 32 rfl w.heap.size 3 i1 (.int .i64 0) 1 8 Tryz.underlying32 hi1 hi2 hi3 hi4 rfl (by decide) v l.length (l.map encZ) rfl (hrow.out.alloc _) ⟨w5.heap.size, 0, none⟩ 1 1 [.int .i64 (k : Int)] rfl rfl one_news (by intro u hu; simp at hu; subst hu; rfl) (by unfold maxLen; omega) (by omega) (by have := HLB5.out; simp; omega) ?_; intro v' w6 hown6 hg6 _ hat6; obtain ⟨q6, d6, e6⟩ := owns_form hown6; subst e6; have hsl := HSl.out _ _ ((Below.refl _ _).alloc (Nat.le_refl _) _) hg6; have HL7 := Lib.hid (HPut.out _ _ _ ((Below.refl _ _).alloc (Nat.le_refl _) _) hown6 hg6 hat6); rw [← HSu3.out] at HL7; obtain ⟨c6, f6⟩ := hsl; clear hown6 hg6 hat6 hc5 hlk2)
          | go_in)
        go_roundw
        case rel => exact ⟨k + 1, _, _, by go_num, by omega, HL7⟩
        case measure => (simp [intOf] <;> omega)
      · have HG := Lib.hid (grown_other hroot)
        generalize Value.slice la (listsP k p).length lc = v5 at *
        clear HLn
        have hL5 := HL1.out.skip hroot
        rw [← HG.out] at hL5
        obtain ⟨vs5, hvs5⟩ : ∃ vs5, vs5 = vs := ⟨_, rfl⟩
        rw [← hvs5] at hL5
        have HL5 := Lib.hid hL5
        generalize hw5 : w1 = w5 at *
        clear hw5
        obtain ⟨r, hr⟩ : ∃ r, r = p k := ⟨_, rfl⟩
        have HR1 : Hid (p r = r) := Lib.hid (by rw [hr]; exact HQ.out.2.1 k)
        have HR2 : Hid (r < k + 1) := Lib.hid (by rw [hr]; have := HQ.out.1 k; omega)
        have HR3 : Hid (r = p k) := Lib.hid hr
        have hne : ((k : Int) == (r : Int)) = false := by simp; omega
        rw [← hr]
        clear hL5 HL1 HG hroot hr hvs5
        go_upto_region 10 with fail
        obtain ⟨G, cap, e⟩ := HL5.out.2.2.2.1.form (by rw [HGn.out]; have := rank_lt HR1.out HR2.out; omega)
        subst e
        have hlk2 := HL5.out.look HR1.out HR2.out (by omega)
        have hj1' := rank_lt HR1.out HR2.out
        have HJ := HGr.out
        rw [← HR3.out] at HJ
        obtain ⟨v, hv⟩ : ∃ v, vs5[rootsN r p]? = some v := ⟨_, List.getElem?_eq_getElem (by rw [HL5.out.2.2.2.1.1, HGn.out]; exact hj1')⟩
        have hc5 := HL5.out.cell hv
        have HV := Lib.hid hv
        have HJ2 := Lib.hid HJ
        have hrow := Lib.hid (HL5.out.2.2.2.1.2.2.1 _ _ _ hv HJ)
        have hll := rowL_le k p r
        have HSl := Lib.hid (fun w1 w2 hb hg => HL5.out.slot (w1 := w1) (w2 := w2) hv hb hg)
        have HPut := Lib.hid (fun w1 w2 v' hb hown hg hat => HL5.out.put (w1 := w1) (w2 := w2) (v' := v') (x := (k : Int)) hb hv HJ hown hg hat)
        have HLB5 := Lib.hid (show w.heap.size ≤ w5.heap.size from HL5.out.1.2.2.2.1)
        have hlen5 : rootsN r p < (grownL k p).length := by rw [HGn.out]; exact hj1'
        have HSu2 := HSu.out
        rw [← HR3.out] at HSu2
        have HSu3 := Lib.hid HSu2
        clear hv HJ HSu2 HGn HGr HSu HL5 HR3
        generalize rowL k p r = l at *
        generalize grownL k p = GL at *
        generalize rootsN r p = J at *
        have q0 : (0 : Int) ≤ (J : Int) := by omega
        have q1 : (J : Int) < (GL.length : Int) := by omega
        go_wp2_with (first
          | (at_builtin; refine wpList_append_own_at _ rfl _ _ 32 rfl w.heap.size 3 i1 (.int .i64 0) 1 8 Tryz.underlying32 hi1 hi2 hi3 hi4 rfl (by decide) v l.length (l.map encZ) rfl (hrow.out.alloc _) ⟨w5.heap.size, 0, none⟩ 1 1 [.int .i64 (k : Int)] rfl rfl one_news (by intro u hu; simp at hu; subst hu; rfl) (by unfold maxLen; omega) (by omega) (by have := HLB5.out; simp; omega) ?_; intro v' w6 hown6 hg6 _ hat6; obtain ⟨q6, d6, e6⟩ := owns_form hown6; subst e6; have hsl := HSl.out _ _ ((Below.refl _ _).alloc (Nat.le_refl _) _) hg6; have HL7 := Lib.hid (HPut.out _ _ _ ((Below.refl _ _).alloc (Nat.le_refl _) _) hown6 hg6 hat6); rw [← HSu3.out] at HL7; obtain ⟨c6, f6⟩ := hsl; clear hown6 hg6 hat6 hc5 hlk2)
          | go_in)
        go_roundw
        case rel => exact ⟨k + 1, _, _, by go_num, by omega, HL7⟩
        case measure => (simp [intOf] <;> omega)
    · have hge : ¬ (k : Int) < (n : Int) := by omega
      have HKE : Hid (k = n) := Lib.hid (by omega)
      have HE := Lib.hid hrows
      clear hrows
      go_wp2
      go_ret
      exact ⟨la, ⟨lc, by rw [HKE.out]; rfl⟩, by rw [← HKE.out]; exact HE.out, HL.out.1, HL.out.2.1⟩
end Go.Proofs.YtmohfmhkhldhnaaGreat.Ds
