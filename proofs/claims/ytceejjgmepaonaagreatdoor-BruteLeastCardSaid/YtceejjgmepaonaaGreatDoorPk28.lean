/- lightest's contract: the least weight of those sides that are asked for, and all of them that weigh it, in the walk's order. -/
import Derived.Test.YtceejjgmepaonaaGreatDoorPk22
import Derived.Test.YtceejjgmepaonaaGreatDoorPk27
namespace Go.Proofs.YtceejjgmepaonaaGreatDoor.Bg
open Go.RowKit Go.ChangeShapes BgPure BgRes EdPure NtPure
def encG (g : Nat) : Value := .int .u32 (g : Int)
theorem info_g : (Tryz.prog.info? 71).map (fun i => (i.zero, i.size, i.bytes)) = some (some (.int .u32 0), 1, 4) := by kernel_rfl
/-- A list of groups that a closure gathers in its variable, at S; its rows lie from b on. -/
def GaAt (S b : Nat) (xs : List Nat) (W : World) : Prop := ∃ v, CellAt S W v ∧ W.ownsRow b 71 1 v xs.length (xs.map encG)
theorem GaAt.keep {S b : Nat} {xs : List Nat} {W W' : World} (h : GaAt S b xs W) (hb : Below W.heap.size W W') : GaAt S b xs W' := by
  obtain ⟨v, h1, h2⟩ := h
  exact ⟨v, h1.keep hb, owns_below h2 hb⟩
/-- Over a store into another block below. -/
theorem GaAt.past {S b L : Nat} {xs : List Nat} {W : World} (h : GaAt S b xs W) (hL : L < b) (hne : L ≠ S) (u : Value) : GaAt S b xs (W.setCell ⟨L, 0, none⟩ u) := by
  obtain ⟨v, h1, h2⟩ := h
  exact ⟨v, h1.past hne u, owns_setCell h2 (p := ⟨L, 0, none⟩) hL u⟩
/-- What a push leaves behind: the list is longer, and all else is as it was. -/
theorem ga_push {S b : Nat} {xs : List Nat} {W w3 : World} {v v' : Value} {o : Obj} {x : Nat} (h1 : CellAt S W v) (h2 : W.ownsRow b 71 1 v xs.length (xs.map encG)) (hS : S < b)
    (g1 : w3.ownsRow b 71 1 v' (xs.length + 1) (xs.map encG ++ [encG x])) (g2 : (W.alloc o).grownBy w3 v.ownBlock) :
    GaAt S b (xs ++ [x]) (w3.setCell ⟨S, 0, none⟩ v') ∧ Turn (fun k => k = S ∨ b ≤ k) W (w3.setCell ⟨S, 0, none⟩ v') ∧ CellAt S w3 v ∧ S < w3.heap.size := by
  have hv := fun k e => (h2.lt k e).1
  have t1 : Turn (fun k => k = S ∨ b ≤ k) W (W.alloc o) := Turn.ofBelow ((Below.refl _ _).alloc (Nat.le_refl _) o)
  have t2 : Turn (fun k => k = S ∨ b ≤ k) (W.alloc o) w3 := Turn.grown g2 fun k e => Or.inr (hv k e)
  have t3 : Turn (fun k => k = S ∨ b ≤ k) w3 (w3.setCell ⟨S, 0, none⟩ v') := Turn.cell w3 0 v' (Or.inl rfl)
  have hc : CellAt S (W.alloc o) v := h1.keep ((Below.refl _ _).alloc (Nat.le_refl _) o)
  have hne : some S ≠ v.ownBlock := fun e => by have := hv S e.symm; omega
  have hb3 := g2.block S hc.lt hne
  have hc3 : CellAt S w3 v := ⟨(World.cell?_of_block hb3).trans hc.1, (World.frozen?_of_block hb3).trans hc.2⟩
  refine ⟨⟨v', hc3.set v', ?_⟩, (t1.trans t2 (fun x h => Or.inl h)).trans t3 (fun x h => Or.inl h), hc3, hc3.lt⟩
  rw [List.length_append, List.map_append]
  exact owns_setCell g1 (p := ⟨S, 0, none⟩) hS v'
/-- The list is emptied; its row may be used again. -/
theorem ga_empty {b n : Nat} {W : World} {q : Option Addr} {cap : Nat} {ys : List Value} (h : W.ownsRow b 71 1 (.slice q n cap) n ys) : W.ownsRow b 71 1 (.slice q 0 cap) 0 [] := by
  obtain ⟨h1, ⟨h2, h3⟩ | ⟨g, c, cur, h3, h4, h5, h6, h7, h8, h9⟩⟩ := h
  · cases h2
    exact World.ownsRow_nil _ _ _ _
  · cases h3
    exact ⟨by simp, Or.inr ⟨g, cap, cur, rfl, h4, h5, Nat.zero_le _, h7, h8, by simp⟩⟩
/-- The state of lightest's variables: which sides are asked for, the least so far, and those that weigh it. -/
def LtAt (w : World) (B b : Nat) (F : Value) (c : Int) (xs : List Nat) (W : World) : Prop :=
  Below B w W ∧ (B + 3 ≤ b ∧ b ≤ W.heap.size) ∧ W.cell? ⟨B, 0, none⟩ = some F ∧ CellAt (B + 1) W (.int .i64 c) ∧ GaAt (B + 2) b xs W
theorem LtAt.keep {w : World} {B b : Nat} {F : Value} {c : Int} {xs : List Nat} {W W' : World} (h : LtAt w B b F c xs W) (hb : Below W.heap.size W W') : LtAt w B b F c xs W' := by
  obtain ⟨h1, h2, h3, h4, h5⟩ := h
  have hs := hb.size
  have hl := World.block_lt_of_cell? W _ h3
  exact ⟨h1.trans (hb.mono (by simp at hl; omega)), by omega, (hb.cell hl).trans h3, h4.keep hb, h5.keep hb⟩
/-- Only the variables, and rows of the call's own, are turned. -/
def LtO (B b : Nat) (k : Nat) : Prop := k = B + 1 ∨ k = B + 2 ∨ b ≤ k
theorem LtAt.turn {w : World} {B b : Nat} {F : Value} {c c' : Int} {xs xs' : List Nat} {W W' : World} (h : LtAt w B b F c xs W) (ht : Turn (LtO B b) W W') (h4 : CellAt (B + 1) W' (.int .i64 c')) (h5 : GaAt (B + 2) b xs' W') : LtAt w B b F c' xs' W' := by
  obtain ⟨h1, h2, h3, -, -⟩ := h
  have hs := ht.size
  have hl := World.block_lt_of_cell? W _ h3
  have hb : Below B W W' := ht.below (by omega) (fun k hk => by unfold LtO at hk; omega)
  exact ⟨h1.trans hb, by omega, (World.cell?_of_block (ht.2.2.2.2 B hl (by unfold LtO; omega))).trans h3, h4, h5⟩
theorem LtAt.push {w : World} {B b : Nat} {F : Value} {c : Int} {xs : List Nat} {W w3 : World} {v v' : Value} {o : Obj} {x : Nat} (h : LtAt w B b F c xs W) (h1 : CellAt (B + 2) W v) (h2 : W.ownsRow b 71 1 v xs.length (xs.map encG))
    (g1 : w3.ownsRow b 71 1 v' (xs.length + 1) (xs.map encG ++ [encG x])) (g2 : (W.alloc o).grownBy w3 v.ownBlock) :
    LtAt w B b F c (xs ++ [x]) (w3.setCell ⟨B + 2, 0, none⟩ v') ∧ Turn (LtO B b) W (w3.setCell ⟨B + 2, 0, none⟩ v') ∧ CellAt (B + 2) w3 v ∧ B + 2 < w3.heap.size := by
  obtain ⟨a1, a2, a3, a4⟩ := ga_push h1 h2 (by have := h.2.1; omega) g1 g2
  have ht : Turn (LtO B b) W (w3.setCell ⟨B + 2, 0, none⟩ v') := ⟨a2.1, a2.2.1, a2.2.2.1, a2.2.2.2.1, fun k hk hn => a2.2.2.2.2 k hk (fun e => hn (by unfold LtO; omega))⟩
  have hc := h.2.2.2.1
  have hb1 := a2.2.2.2.2 (B + 1) hc.lt (by have := h.2.1; omega)
  exact ⟨h.turn ht ⟨(World.cell?_of_block hb1).trans hc.1, (World.frozen?_of_block hb1).trans hc.2⟩ a1, ht, a3, a4⟩
theorem LtAt.emptied {w : World} {B b : Nat} {F : Value} {c : Int} {xs : List Nat} {W : World} {q : Option Addr} {cap : Nat} (h : LtAt w B b F c xs W) (h1 : CellAt (B + 2) W (.slice q xs.length cap)) (h2 : W.ownsRow b 71 1 (.slice q xs.length cap) xs.length (xs.map encG)) (wt : Int) (W2 : World)
    (e : W2 = ((W.setCell ⟨B + 1, 0, none⟩ (.int .i64 wt)).setCell ⟨B + 2, 0, none⟩ (.slice q 0 cap)).drew) :
    LtAt w B b F wt [] W2 ∧ Turn (LtO B b) W W2 ∧ ∃ v, CellAt (B + 2) W2 v ∧ W2.ownsRow b 71 1 v ([] : List Nat).length (([] : List Nat).map encG) := by
  have hb := h.2.1
  have t1 : Turn (LtO B b) W (W.setCell ⟨B + 1, 0, none⟩ (.int .i64 wt)) := Turn.cell W 0 _ (Or.inl rfl)
  have t2 : Turn (LtO B b) (W.setCell ⟨B + 1, 0, none⟩ (.int .i64 wt)) ((W.setCell ⟨B + 1, 0, none⟩ (.int .i64 wt)).setCell ⟨B + 2, 0, none⟩ (.slice q 0 cap)) := Turn.cell _ 0 _ (Or.inr (Or.inl rfl))
  have t : Turn (LtO B b) W W2 := by rw [e]; exact ((t1.trans t2 (fun x h => Or.inl h)).drawn 1)
  have r1 : (W.setCell ⟨B + 1, 0, none⟩ (.int .i64 wt)).ownsRow b 71 1 (.slice q xs.length cap) xs.length (xs.map encG) := owns_setCell h2 (p := ⟨B + 1, 0, none⟩) (by show B + 1 < b; omega) _
  have r2 := ga_empty (owns_setCell r1 (p := ⟨B + 2, 0, none⟩) (by show B + 2 < b; omega) (.slice q 0 cap))
  have k1 : CellAt (B + 1) W2 (.int .i64 wt) := by rw [e]; exact (h.2.2.2.1.set (.int .i64 wt)).past (by omega) _
  have k2 : CellAt (B + 2) W2 (.slice q 0 cap) := by rw [e]; exact (h1.past (by omega) _).set _
  have k3 : W2.ownsRow b 71 1 (.slice q 0 cap) ([] : List Nat).length (([] : List Nat).map encG) := by rw [e]; exact r2
  exact ⟨h.turn t k1 ⟨_, k2, k3⟩, t, _, k2, k3⟩
/-- What one side more comes to. -/
def LtOut (w : World) (B b : Nat) (F : Value) (c : Int) (xs : List Nat) (W : World) (e : Ending) (V : World) : Prop := (∃ v, e = .returned v) ∧ LtAt w B b F c xs V ∧ Turn (LtO B b) W V
set_option maxRecDepth 100000 in
set_option maxHeartbeats 8000000 in
theorem light_note (w : World) (B b fa : Nat) (ca : Array Value) (eg : ∀ args w, (callFunc fa args).run Tryz.prog w = .ok (.enter fa args) w) (A : Nat → Bool) (M : List Ed) (g : Nat) (p : Int × List Nat) (hp : p.2.length ≤ 1000000)
    (W : World) (h : LtAt w B b (.func (.func fa) #[] ca) p.1 p.2 W)
    (hA : ∀ W1, Below W.heap.size W W1 → Calls Tryz.prog fa (#[.int .u32 (g : Int)] ++ ca) W1 fun e w' => e = .returned (.bool (A g)) ∧ Below W1.heap.size W1 w') :
    Calls Tryz.prog 44 #[.int .u32 (g : Int), .int .i64 (cG M g), .pointer (some ⟨B + 1, 0, none⟩), .pointer (some ⟨B, 0, none⟩), .pointer (some ⟨B + 2, 0, none⟩)] W fun e V => LtOut w B b (.func (.func fa) #[] ca) (ltStep A M p g).1 (ltStep A M p g).2 W e V := by
  obtain ⟨i0, hi, hz0, hz1, hz2⟩ := info_of info_g
  obtain ⟨c, xs⟩ := p
  have HA := Lib.hid (hA W (Below.refl _ _))
  have H := Lib.hid h
  have hl0 := World.block_lt_of_cell? W _ h.2.2.1
  have c0 := h.2.2.1
  obtain ⟨c1, f1⟩ := h.2.2.2.1
  have hl1 := h.2.2.2.1.lt
  have HStep : Hid (ltStep A M (c, xs) g = if c < cG M g then (c, xs) else if A g = false then (c, xs) else if cG M g < c then (cG M g, [g]) else (c, xs ++ [g])) := Lib.hid rfl
  generalize ltStep A M (c, xs) g = st at *
  generalize cG M g = wt at *
  simp only at hp c1
  by_cases k1 : c < wt
  · have hs := HStep.out
    rw [if_pos k1] at hs
    subst hs
    clear hA h HStep
    have i1 : decide (wt > c) = true := decide_eq_true (by omega)
    go_enter Tryz.func44, Tryz.ntmps44
    go_wp2
    exact bodyPost_ret (results_none rfl _ _ _) rfl ⟨⟨_, rfl⟩, H.out, Turn.refl _ _⟩
  · have hs := HStep.out
    rw [if_neg k1] at hs
    have HS := Lib.hid hs
    have i1 : decide (wt > c) = false := decide_eq_false (by omega)
    clear hA h HStep hs
    cases hA : A g with
    | false =>
      rw [hA] at HA HS
      have hs := HS.out
      rw [if_pos rfl] at hs
      subst hs
      clear HS hA
      go_enter Tryz.func44, Tryz.ntmps44
      go_wp2_with fail
      refine HA.out.mono ?_
      rintro e w1 ⟨rfl, hb1⟩
      have HE := Lib.hid (And.intro (H.out.keep hb1) (Turn.ofBelow (O := LtO B b) hb1))
      clear hb1
      go_wp2
      exact bodyPost_ret (results_none rfl _ _ _) rfl ⟨⟨_, rfl⟩, HE.out⟩
    | true =>
      rw [hA] at HA HS
      have hs := HS.out
      rw [if_neg (by decide)] at hs
      clear HS hA
      by_cases k2 : wt < c
      · rw [if_pos k2] at hs
        subst hs
        have i2 : decide (wt < c) = true := decide_eq_true k2
        go_enter Tryz.func44, Tryz.ntmps44
        go_wp2_with fail
        refine HA.out.mono ?_
        rintro e w1 ⟨rfl, hb1⟩
        have H1 := Lib.hid (H.out.keep hb1)
        have HTu := Lib.hid (Turn.ofBelow (O := LtO B b) hb1)
        clear hb1 H c0 c1 f1 hl0 hl1
        obtain ⟨v, hv, hrow⟩ := H1.out.2.2.2.2
        obtain ⟨q, cap, rfl⟩ := owns_form hrow
        have hv2 := hv.lt
        obtain ⟨c1, f1⟩ := H1.out.2.2.2.1
        have hl1 := H1.out.2.2.2.1.lt
        obtain ⟨c2, f2⟩ := hv
        have HRow := Lib.hid hrow
        clear hrow
        have j0 : ¬ (0 : Int) > (cap : Int) := by omega
        have j1 : (0 : Int) ≤ (cap : Int) := by omega
        go_wp2_with fail
        go_region_with fail
        all_goals have HEm := Lib.hid (H1.out.emptied ⟨c2, f2⟩ HRow.out wt _ rfl)
        all_goals generalize ((w1.setCell ⟨B + 1, 0, none⟩ (.int .i64 wt)).setCell ⟨B + 2, 0, none⟩ (.slice q 0 cap)).drew = W2 at *
        all_goals clear c1 f1 c2 f2 hv2 hl1 HRow
        all_goals obtain ⟨v, hv, hrow⟩ := HEm.out.2.2
        all_goals have HV := Lib.hid hv
        all_goals have HRow := Lib.hid hrow
        all_goals have hl2 := hv.lt
        all_goals obtain ⟨c2, f2⟩ := hv
        all_goals clear hrow
        all_goals have hl2b : b ≤ W2.heap.size := HEm.out.1.2.1.2
        all_goals go_wp2_with (first
          | (at_builtin; go_loud (refine wpList_append_own _ rfl _ _ 66 rfl b 71 i0 (.int .u32 0) 1 4 Tryz.underlying66 hi hz0 hz1 hz2 rfl (by decide) _ _ _ rfl (HRow.out.alloc _) ⟨W2.heap.size, 0, none⟩ 1 1 [.int .u32 (g : Int)] rfl rfl one_news (by intro u hu; simp at hu; subst hu; rfl) (by unfold maxLen; simp) (by simp only [List.length_nil]; omega) (by simp; omega) ?_)))
        all_goals intro v' w3 hown hgrow _
        all_goals obtain ⟨g', cap', rfl⟩ := ownsRow_succ hown
        all_goals obtain ⟨a1, a2, ⟨c3, f3⟩, a4⟩ := HEm.out.1.push (x := g) HV.out HRow.out hown hgrow
        all_goals have HE := Lib.hid (And.intro a1 ((HTu.out.trans HEm.out.2.1 (fun x h => Or.inl h)).trans a2 (fun x h => Or.inl h)))
        all_goals clear a1 a2 hown hgrow c2 f2 hl2
        all_goals go_wp2
        all_goals go_end0
        all_goals exact ⟨⟨_, rfl⟩, HE.out⟩
      · rw [if_neg k2] at hs
        subst hs
        have i2 : decide (wt < c) = false := decide_eq_false k2
        go_enter Tryz.func44, Tryz.ntmps44
        go_wp2_with fail
        refine HA.out.mono ?_
        rintro e w1 ⟨rfl, hb1⟩
        have H1 := Lib.hid (H.out.keep hb1)
        have HTu := Lib.hid (Turn.ofBelow (O := LtO B b) hb1)
        clear hb1 H c0 c1 f1 hl0 hl1
        obtain ⟨v, hv, hrow⟩ := H1.out.2.2.2.2
        have HV := Lib.hid hv
        have HRow := Lib.hid hrow
        have hv2 := hv.lt
        obtain ⟨c1, f1⟩ := H1.out.2.2.2.1
        have hl1 := H1.out.2.2.2.1.lt
        obtain ⟨c2, f2⟩ := hv
        have hl2b : b ≤ w1.heap.size := H1.out.2.1.2
        clear hrow
        go_wp2_with (first
          | (at_builtin; refine wpList_append_own _ rfl _ _ 66 rfl b 71 i0 (.int .u32 0) 1 4 Tryz.underlying66 hi hz0 hz1 hz2 rfl (by decide) _ _ _ rfl (HRow.out.alloc _) ⟨w1.heap.size, 0, none⟩ 1 1 [.int .u32 (g : Int)] rfl rfl one_news (by intro u hu; simp at hu; subst hu; rfl) (by unfold maxLen; omega) (by omega) (by simp; omega) ?_))
        intro v' w3 hown hgrow _
        obtain ⟨g', cap', rfl⟩ := ownsRow_succ hown
        obtain ⟨a1, a2, ⟨c3, f3⟩, a4⟩ := H1.out.push (x := g) HV.out HRow.out hown hgrow
        have HE := Lib.hid (And.intro a1 (HTu.out.trans a2 (fun x h => Or.inl h)))
        clear a1 a2 hown hgrow c2 f2 hv2
        go_wp2
        go_end0
        exact ⟨⟨_, rfl⟩, HE.out⟩
def LightOut (A : Nat → Bool) (M : List Ed) (K : Nat) (w : World) (e : Ending) (w' : World) : Prop :=
  ∃ q cap, e = .returned (.tuple #[.int .i64 (ltF A M K).1, .slice q (ltF A M K).2.length cap]) ∧ ReadsL encG w'.heap.size w' q (ltF A M K).2 ∧ Below w.heap.size w w'
set_option maxRecDepth 100000 in
set_option maxHeartbeats 4000000 in
theorem lightest_any (p : Option Addr) (N : Nat) (M : List Ed) (hN : N ≤ 20) (hG : GoodN N M) (hM : M.length ≤ 1048576) (fa : Nat) (ca : Array Value) (eg : ∀ args w, (callFunc fa args).run Tryz.prog w = .ok (.enter fa args) w) (A : Nat → Bool)
    (w : World) (h : NetAt p N M w) (hT : Tab w) (hA : ∀ g W1, g < 2 ^ N → Below w.heap.size w W1 → Calls Tryz.prog fa (#[.int .u32 ((g : Nat) : Int)] ++ ca) W1 fun e w' => e = .returned (.bool (A g)) ∧ Below W1.heap.size W1 w') :
    Calls Tryz.prog 21 #[.pointer p, .func (.func fa) #[] ca] w fun e w' => LightOut A M (2 ^ (N - 1) - 1) w e w' := by
  have hst : LtAt w w.heap.size (w.heap.size + 3) (.func (.func fa) #[] ca) 9223372036854775807 [] (((w.alloc (.cells #[.func (.func fa) #[] ca] 69)).alloc (.cells #[.int .i64 9223372036854775807] 2)).alloc (.cells #[.slice none 0 0] 66)) ∧
      CellAt (w.heap.size + 2) (((w.alloc (.cells #[.func (.func fa) #[] ca] 69)).alloc (.cells #[.int .i64 9223372036854775807] 2)).alloc (.cells #[.slice none 0 0] 66)) (.slice none 0 0) := by
    have b1 : Below w.heap.size w (w.alloc (.cells #[.func (.func fa) #[] ca] 69)) := (Below.refl _ _).alloc (Nat.le_refl _) _
    have b2 := (Below.refl _ (w.alloc (.cells #[.func (.func fa) #[] ca] 69))).alloc (Nat.le_refl _) (.cells #[.int .i64 9223372036854775807] 2)
    have b3 := (Below.refl _ ((w.alloc (.cells #[.func (.func fa) #[] ca] 69)).alloc (.cells #[.int .i64 9223372036854775807] 2))).alloc (Nat.le_refl _) (.cells #[.slice none 0 0] 66)
    have c1 := CellAt.new w (.func (.func fa) #[] ca) 69
    have c2 := CellAt.new (w.alloc (.cells #[.func (.func fa) #[] ca] 69)) (.int .i64 9223372036854775807) 2
    have c3 := CellAt.new ((w.alloc (.cells #[.func (.func fa) #[] ca] 69)).alloc (.cells #[.int .i64 9223372036854775807] 2)) (.slice none 0 0) 66
    rw [World.size_alloc] at c2 c3
    rw [World.size_alloc] at c3
    exact ⟨⟨b1.trans ((b2.trans (b3.mono b2.size)).mono b1.size), by simp, ((c1.keep b2).keep b3).1, c2.keep b3, _, c3, World.ownsRow_nil _ _ _ _⟩, c3⟩
  have HSt := Lib.hid hst
  have HSz : Hid ((((w.alloc (.cells #[.func (.func fa) #[] ca] 69)).alloc (.cells #[.int .i64 9223372036854775807] 2)).alloc (.cells #[.slice none 0 0] 66)).heap.size = w.heap.size + 3) := Lib.hid (by simp)
  clear hst
  have hmf : ∀ (w : World) (x y z : Value), (Instr.makeFunc (.func 44) #[] #[x, y, z]).run Tryz.prog w = .ok (.func (.func 44) #[] #[x, y, z]) w := fun w x y z => rfl
  have HTh := Lib.hid (fun W3 (hs : W3.heap.size = w.heap.size + 3) (hL : LtAt w w.heap.size (w.heap.size + 3) (.func (.func fa) #[] ca) 9223372036854775807 [] W3) (hC : CellAt (w.heap.size + 2) W3 (.slice none 0 0)) =>
    through_any p N M hN hG hM w W3 h hT 44 #[.pointer (some ⟨w.heap.size + 1, 0, none⟩), .pointer (some ⟨w.heap.size, 0, none⟩), .pointer (some ⟨w.heap.size + 2, 0, none⟩)] (enters_of Tryz.func44 (by kernel_rfl) rfl)
      (fun b i W => LtAt w w.heap.size b (.func (.func fa) #[] ca) (ltF A M i).1 (ltF A M i).2 W)
      (fun W hb => by
        obtain ⟨a1, a2, a3, a4, -⟩ := hL.keep hb
        have hsz := hb.size
        exact ⟨a1, by omega, a3, a4, .slice none 0 0, hC.keep hb, World.ownsRow_nil _ _ _ _⟩)
      hL.1 (fun b i W hJ => hJ.1) (fun b i W W' hJ hb => hJ.keep hb)
      (fun b i W hi hJ => by
        have hg : gaG (i + 1) < 2 ^ N := by
          by_cases hN1 : 1 ≤ N
          · have := ga_lt (i := i + 1) (k := N - 1) (by omega)
            rwa [show N - 1 + 1 = N by omega] at this
          · rw [show N = 0 by omega] at hi; simp at hi
        have h19 : 2 ^ (N - 1) ≤ 2 ^ 19 := Nat.pow_le_pow_right (by decide) (by omega)
        refine (light_note w w.heap.size b fa ca eg A M (gaG (i + 1)) (ltF A M i) (by have := lt_len A M i; omega) W hJ (fun W1 hb => hA _ W1 hg (hJ.1.trans (hb.mono hJ.1.size)))).mono ?_
        rintro e V ⟨h1, h2, h3⟩
        refine ⟨h1, h2, h3.size, fun k k1 k2 => h3.2.2.2.2 k (by have := hJ.2.1; omega) (by unfold LtO; omega)⟩))
  clear h hT hA
  go_enter Tryz.func21, Tryz.ntmps21
  go_wp2_with fail
  generalize ((w.alloc (.cells #[.func (.func fa) #[] ca] 69)).alloc (.cells #[.int .i64 9223372036854775807] 2)).alloc (.cells #[.slice none 0 0] 66) = W3 at *
  refine (HTh.out W3 HSz.out HSt.out.1 HSt.out.2).mono ?_
  rintro e w1 ⟨⟨v, rfl⟩, b, hj⟩
  obtain ⟨u, hu, hrow⟩ := hj.2.2.2.2
  obtain ⟨q, cap, rfl⟩ := owns_form hrow
  have hc1 := hj.2.2.2.1
  have hl1 := hc1.lt
  have hl2 := hu.lt
  obtain ⟨c1, f1⟩ := hc1
  obtain ⟨c2, f2⟩ := hu
  have HRow := Lib.hid hrow
  have HJ := Lib.hid hj.1
  clear hj hrow HTh HSt
  go_wp2_with fail
  go_quiet (fail)
  go_wp2
  go_ret2
  obtain ⟨q', cap', e, hr, -⟩ := owns_readsL (l := (ltF A M (2 ^ (N - 1) - 1)).2) (enc := encG) rfl HRow.out
  cases e
  exact ⟨q, cap, rfl, hr, below_drewN HJ.out nq⟩
end Go.Proofs.YtceejjgmepaonaaGreatDoor.Bg
