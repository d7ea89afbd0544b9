/- Texts that the laws of this seat stand on, part 42. -/
import Derived.Test.YtceejjgmepaonaaDoorPk41
import Derived.Test.YtceejjgmepaonaaDoorPk3
import Derived.Test.YtceejjgmepaonaaDoorPk2
import Derived.Test.YtceejjgmepaonaaDoorPk20
import Derived.Test.YtceejjgmepaonaaDoorPk32
import Derived.Test.YtceejjgmepaonaaDoorPk30
/- What crosses a side, one edge by one: the range's function hands over just the edges that cross; and how it comes about. -/
namespace Go.Proofs.YtceejjgmepaonaaDoor.Sd
open Go.RowKit Go.ChangeShapes EdPure NtPure CutPure SdPure Cm Vs
attribute [local go_sem] Oper.semAt_some
/-- The set of a side parts the ends of an edge that crosses. -/
theorem parts_cross {N : Nat} {M : List Ed} (hG : GoodN N M) (l : List Int) {k : Nat} (hk : k < M.length) : partsP N (ofP N l) M[k].1 M[k].2.1 = crossB (inS l) M[k] := by
  have hm := List.getElem_mem hk
  have h1 := hG.2.1 M[k] hm
  have h2 := (hG.1.2 M[k] hm).1
  have key : ∀ v : Int, 0 ≤ v → v < N → ofP N l v.toNat = inS l v := fun v v0 v1 => by
    unfold ofP
    cases hb : inS l v with
    | true =>
      rw [List.any_eq_true]
      exact ⟨v, inS_iff.1 hb, by unfold fitB; simp; omega⟩
    | false =>
      rw [List.any_eq_false]
      intro x hx
      have hne : x ≠ v := fun e => by rw [e] at hx; rw [inS_iff.2 hx] at hb; cases hb
      simp; omega
  unfold partsP crossB fitB
  rw [key _ (by omega) (by omega), key _ (by omega) (by omega), decide_eq_true (show (0 : Int) ≤ M[k].1 by omega), decide_eq_true (show M[k].1 < (N : Int) by omega), decide_eq_true (show (0 : Int) ≤ M[k].2.1 by omega), decide_eq_true (show M[k].2.1 < (N : Int) by omega)]
  simp
theorem at_edge {M : List Ed} {k : Nat} (hk : k < M.length) : atE M (k : Int) = M[k] := by
  unfold atE
  rw [dif_pos (by omega)]
  rfl
/-- The captured variables: the graph, the set of the side. -/
def CrSt (p : Option Addr) (N : Nat) (M : List Ed) (l : List Int) (X Y sb sg : Nat) (W : World) : Prop :=
  W.cell? ⟨X, 0, none⟩ = some (.pointer p) ∧ NetAt p N M W ∧ W.cell? ⟨Y, 0, none⟩ = some (.pointer (some ⟨sb, 0, none⟩)) ∧ SetAt sb sg W N (ofP N l)
theorem CrSt.keep {p : Option Addr} {N : Nat} {M : List Ed} {l : List Int} {X Y sb sg : Nat} {W W' : World} (h : CrSt p N M l X Y sb sg W) (hb : Below W.heap.size W W') : CrSt p N M l X Y sb sg W' :=
  ⟨(hb.cell (World.block_lt_of_cell? W _ h.1)).trans h.1, h.2.1.over hb, (hb.cell (World.block_lt_of_cell? W _ h.2.2.1)).trans h.2.2.1, h.2.2.2.keep hb⟩
theorem cross_cut (M : List Ed) (S : Int → Bool) {k : Nat} (hk : k < M.length) (hc : crossB S M[k] = true) : ∃ rest, crossL M S M.length = crossL M S k ++ (k : Int) :: rest := by
  have : ∀ j, k + 1 + j ≤ M.length → ∃ rest, crossL M S (k + 1 + j) = crossL M S k ++ (k : Int) :: rest := by
    intro j
    induction j with
    | zero =>
      intro _
      exact ⟨[], by rw [Nat.add_zero, cross_succ S hk, if_pos hc]⟩
    | succ j ih =>
      intro hj
      obtain ⟨r, hr⟩ := ih (by omega)
      exact ⟨r ++ _, by rw [show k + 1 + (j + 1) = (k + 1 + j) + 1 by omega, cross_succ S (by omega), hr, List.append_assoc, List.cons_append]⟩
  obtain ⟨r, hr⟩ := this (M.length - (k + 1)) (by omega)
  exact ⟨r, by rw [← hr]; congr 1; omega⟩
set_option maxRecDepth 100000 in
set_option maxHeartbeats 2000000 in
theorem cross_in (m : Nat) (hm : 1 ≤ m) (lp X Y sb sg : Nat) (p : Option Addr) (N : Nat) (M : List Ed) (hG : GoodN N M) (hM : M.length ≤ 1048576) (l : List Int) (J : List Int → World → Prop)
    (hJ : ∀ ys W, J ys W → CrSt p N M l X Y sb sg W) (hB : ∀ ys W W', J ys W → Below W.heap.size W W' → J ys W')
    (hY : ∀ (pre : List Int) (x : Int) (rest : List Int) (W : World), crossL M (inS l) M.length = pre ++ x :: rest → J pre W → YieldAt Fence.wide (m - 1) Tryd.prog lp #[.int .i64 x, encE (atE M x)] W fun e V => e = .returned (.bool true) ∧ J (pre ++ [x]) V)
    (W : World) (h0 : J [] W) :
    CallsIn Fence.wide m Tryd.prog 76 #[.func (.yield lp) #[] #[], .pointer (some ⟨X, 0, none⟩), .pointer (some ⟨Y, 0, none⟩)] W fun e V => (∃ v, e = .returned v) ∧ J (crossL M (inS l) M.length) V := by
  have HJ := Lib.hid hJ
  have HB := Lib.hid hB
  have HY := Lib.hid hY
  have HG := Lib.hid hG
  have c1 := (hJ _ _ h0).1
  have HM := Lib.hid (cnt_any p N M W (hJ _ _ h0).2.1)
  have HJ0 := Lib.hid h0
  clear hJ hY hG hB h0
  refine callsIn_of_wp Tryd.func76 rfl trivial ?_ rfl
  simp only [Tryd.ntmps76, List.size_toArray, List.length_cons, List.length_nil, Nat.reduceAdd, Nat.reduceSub, Array.replicate_succ, Array.replicate_zero, List.push_toArray, List.append_toArray, List.nil_append, List.cons_append]
  gi_wp2_with (first | (refine ⟨trivial, ?_⟩; gi_at_call 77; refine (callsIn_wide.2 HM.out).mono ?_; rintro e w' ⟨rfl, hb⟩; have HJ1 := Lib.hid (HB.out _ _ _ HJ0.out hb); clear hb))
  clear c1 HM HJ0
  gi_loopw [9] (fun i wr => ∃ k : Nat, k ≤ M.length ∧ i = .int .i64 k ∧ Hid (J (crossL M (inS l) k) wr)) (fun i _ => M.length - (intOf i).toNat)
  case atStart => exact ⟨0, Nat.zero_le _, rfl, HJ1⟩
  case round =>
    obtain ⟨k, hk, rfl, HS⟩ := hrel
    clear HJ1
    have i0 : (0 : Int) ≤ (k : Int) := by omega
    by_cases hlt : k < M.length
    · have i1 : (k : Int) < (M.length : Int) := by omega
      have HP := Lib.hid (parts_cross HG.out l hlt)
      have HC := Lib.hid (fun hc => cross_cut M (inS l) hlt hc)
      have HN := Lib.hid (cross_succ (inS l) (M := M) hlt)
      have HA := Lib.hid (at_edge hlt)
      have c1 := (HJ.out _ _ HS.out).1
      have HE := Lib.hid (edge_any p N M (k : Int) wr (HJ.out _ _ HS.out).2.1)
      rw [HA.out] at HE
      have HYk := Lib.hid (fun rest W h hj => HY.out (crossL M (inS l) k) (k : Int) rest W h hj)
      rw [HA.out] at HYk
      obtain ⟨u, v, z, he⟩ : ∃ u v z, M[k] = (u, v, z) := ⟨_, _, _, rfl⟩
      rw [he] at HP HC HN HE HYk
      unfold encE at HE HYk
      simp only at HP HC HN HE HYk
      generalize crossB (inS l) (u, v, z) = cb at *
      clear he HA
      gi_wp2_with fail
      refine ⟨trivial, ?_⟩
      gi_at_call 78
      refine (callsIn_wide.2 HE.out).mono ?_
      rintro e w1 ⟨rfl, hb1⟩
      have hb2 : Below wr.heap.size wr (w1.alloc (.cells #[.int .i64 u, .int .i64 v, .int .i64 z] 54)) := hb1.alloc hb1.size _
      have HS2 := Lib.hid (HB.out _ _ _ HS.out hb2)
      obtain ⟨e0, e1, e2, -, -, -⟩ := ThreeAt.new w1 (.int .i64 u) (.int .i64 v) (.int .i64 z) 54
      obtain ⟨-, -, c3, hset⟩ := HJ.out _ _ HS2.out
      have HPa := Lib.hid (parts_any sb sg N (ofP N l) u v _ hset)
      rw [HP.out] at HPa
      clear c1 hb1 hb2 hset HE
      cases cb with
      | false =>
        have HX : Hid (crossL M (inS l) (k + 1) = crossL M (inS l) k) := Lib.hid (by rw [HN.out, if_neg (by decide), List.append_nil])
        gi_wp2_with fail
        refine ⟨trivial, ?_⟩
        gi_at_call 79
        refine (callsIn_wide.2 HPa.out).mono ?_
        rintro e w3 ⟨rfl, j, rfl⟩
        have HS3 := Lib.hid (HB.out _ _ _ HS2.out (below_drewN (Below.refl _ _) j))
        gi_wp2
        refine ⟨fun f hf => (by cases hf), ?_⟩
        gi_wp2
        go_roundw
        case rel => exact ⟨k + 1, by omega, by go_num, by rw [HX.out]; exact HS3⟩
        case measure => (simp [intOf] <;> omega)
      | true =>
        have HX : Hid (crossL M (inS l) (k + 1) = crossL M (inS l) k ++ [(k : Int)]) := Lib.hid (by rw [HN.out, if_pos rfl])
        gi_wp2_with fail
        refine ⟨trivial, ?_⟩
        gi_at_call 79
        refine (callsIn_wide.2 HPa.out).mono ?_
        rintro e w3 ⟨rfl, j, rfl⟩
        have HS3 := Lib.hid (HB.out _ _ _ HS2.out (below_drewN (Below.refl _ _) j))
        obtain ⟨rest, hrest⟩ := HC.out trivial
        obtain ⟨fn, tmps, assign, body, hyd, hR⟩ := HYk.out rest _ hrest HS3.out
        clear hrest
        gi_wp2_with fail
        refine hR.mono ?_
        rintro e W3 ⟨rfl, hJ3⟩
        have HS4 := Lib.hid hJ3
        clear hJ3 hR hyd
        gi_wp2
        go_roundw
        case rel => exact ⟨k + 1, by omega, by go_num, by rw [HX.out]; exact HS4⟩
        case measure => (simp [intOf] <;> omega)
    · have hke : k = M.length := by omega
      subst hke
      gi_wp2
      go_end0
      exact ⟨⟨_, rfl⟩, HS.out⟩
/-- The range's function: its captured variables tell the graph and the side. -/
def CrossOut (p : Option Addr) (N : Nat) (M : List Ed) (l : List Int) (w : World) (e : Ending) (w' : World) : Prop :=
  Below w.heap.size w w' ∧ ∃ X Y sb sg, (w.heap.size ≤ X ∧ w.heap.size ≤ Y ∧ w.heap.size ≤ sb ∧ w.heap.size ≤ sg) ∧ e = .returned (.func (.func 76) #[] #[.pointer (some ⟨X, 0, none⟩), .pointer (some ⟨Y, 0, none⟩)]) ∧ CrSt p N M l X Y sb sg w'
set_option maxRecDepth 100000 in
set_option maxHeartbeats 1000000 in
theorem crossing_any (p : Option Addr) (N : Nat) (M : List Ed) (hN : N ≤ 4096) (b : Option Addr) (d : Nat) (l : List Int) (hl : l.length ≤ 100000) (w : World) (h : NetAt p N M w) (hS : ReadsL encZ w.heap.size w b l) :
    Calls Tryd.prog 62 #[.pointer p, .slice b l.length d] w fun e w' => CrossOut p N M l w e w' := by
  have hb0 : Below w.heap.size w (w.alloc (.cells #[.pointer p] 25)) := (Below.refl _ _).alloc (Nat.le_refl _) _
  have HN0 := Lib.hid (h.over hb0)
  have HS0 := Lib.hid (hS.over hb0 (Nat.le_refl _))
  have hBox := (Boxed.new w 25 (.pointer p)).cell
  have HB0 := Lib.hid hb0
  have hr : roomN (N : Int) = N := roomN_of N hN
  have HR := Lib.hid hr
  clear h hS hb0 hr
  go_enter Tryd.func62, Tryd.ntmps62
  go_wp2_with fail
  generalize w.alloc (.cells #[.pointer p] 25) = W0 at *
  refine (num_any p N M W0 HN0.out).mono ?_
  rintro e w1 ⟨rfl, hb1⟩
  have HB1 := Lib.hid (HB0.out.trans (hb1.mono HB0.out.size))
  have HN1 := Lib.hid (HN0.out.over hb1)
  have HS1 := Lib.hid (HS0.out.over hb1 (Nat.le_refl _))
  have HX1 : Hid (w1.cell? ⟨w.heap.size, 0, none⟩ = some (.pointer p)) := Lib.hid ((hb1.cell (World.block_lt_of_cell? W0 _ hBox)).trans hBox)
  clear hb1 hBox HN0 HS0 HB0
  go_wp2_with fail
  refine (of_any (N : Int) (by omega) (by omega) b d l w1 HS1.out hl).mono ?_
  rintro e w2 ⟨rfl, hb2, hset⟩
  rw [HR.out] at hset
  have hlt := World.block_lt_of_cell? w1 _ HX1.out
  have HX2 : Hid (w2.cell? ⟨w.heap.size, 0, none⟩ = some (.pointer p)) := Lib.hid ((hb2.cell hlt).trans HX1.out)
  have HN2 := Lib.hid (HN1.out.over hb2)
  have HB2 := Lib.hid (HB1.out.trans (hb2.mono HB1.out.size))
  have HSet := Lib.hid hset
  have HSz : Hid (w.heap.size ≤ w1.heap.size ∧ w.heap.size ≤ w2.heap.size) := Lib.hid ⟨HB1.out.size, HB2.out.size⟩
  clear hb2 hset hlt
  generalize w1.heap.size = sg at *
  have hb3 : Below w2.heap.size w2 (w2.alloc (.cells #[.pointer (some ⟨sg + 1, 0, none⟩)] 142)) := (Below.refl _ _).alloc (Nat.le_refl _) _
  have hend : CrSt p N M l w.heap.size w2.heap.size (sg + 1) sg (w2.alloc (.cells #[.pointer (some ⟨sg + 1, 0, none⟩)] 142)) :=
    ⟨(hb3.cell (World.block_lt_of_cell? w2 _ HX2.out)).trans HX2.out, HN2.out.over hb3, (Boxed.new w2 142 (.pointer (some ⟨sg + 1, 0, none⟩))).cell, HSet.out.keep hb3⟩
  have HE := Lib.hid (And.intro (HB2.out.trans (hb3.mono HB2.out.size)) hend)
  have hmf : ∀ (w : World) (x y : Value), (Instr.makeFunc (.func 76) #[] #[x, y]).run Tryd.prog w = .ok (.func (.func 76) #[] #[x, y]) w := fun w x y => rfl
  clear hb3 hend HX1 HN1 HS1 HB1
  go_wp2
  go_ret
  exact ⟨HE.out.1, _, _, _, _, ⟨Nat.le_refl _, HSz.out.2, Nat.le_succ_of_le HSz.out.1, HSz.out.1⟩, rfl, HE.out.2⟩
end Go.Proofs.YtceejjgmepaonaaDoor.Sd
/- Contract of Near of a graph: the list lies in a block of its own. -/
namespace Go.Proofs.YtceejjgmepaonaaDoor.Nn
open Go.RowKit Go.ChangeShapes EdPure NtPure
def IntOwn (l : List Int) (w : World) (e : Ending) (w' : World) : Prop := Below w.heap.size w w' ∧ ∃ v, e = .returned v ∧ w'.ownsRow w.heap.size 3 1 v l.length (l.map encZ)
end Go.Proofs.YtceejjgmepaonaaDoor.Nn
/- Contracts of what side tells: Weight, Crossing, Cut, Parts, Right. -/
namespace Go.Proofs.YtceejjgmepaonaaDoor.Sd
open Go.RowKit Go.ChangeShapes EdPure NtPure CutPure SdPure Cm Vs
attribute [local go_sem] Oper.semAt_some
/-- Only the caller's variable is turned since the range's function was made. -/
def OnSt (W3 : World) (X0 : Nat) (W : World) : Prop := W3.grownBy W (some X0)
theorem OnSt.below {W3 W W' : World} {X0 : Nat} (h : OnSt W3 X0 W) (hb : Below W.heap.size W W') : OnSt W3 X0 W' :=
  ⟨hb.os.trans h.os, hb.tape.trans h.tape, hb.output.trans h.output, Nat.le_trans h.size hb.size, fun k hk hr => (hb.block k (Nat.lt_of_lt_of_le hk h.size)).trans (h.block k hk hr)⟩
theorem onSt_own {β : Type} (W3 : World) (X0 : Nat) : OwnFrom W3.heap.size (fun (_ : β) W => OnSt W3 X0 W) :=
  fun _ W W' row h hg hr => ⟨hg.os.trans h.os, hg.tape.trans h.tape, hg.output.trans h.output, Nat.le_trans h.size hg.size, fun k hk hx => (hg.block k (Nat.lt_of_lt_of_le hk h.size) (fun e => by have := (hr k e.symm).1; omega)).trans (h.block k hk hx)⟩
theorem OnSt.cell {W3 W : World} {X0 : Nat} (h : OnSt W3 X0 W) {p : Addr} {v : Value} (hc : W3.cell? p = some v) (hne : p.block ≠ X0) : W.cell? p = some v :=
  (World.cell?_of_block (h.block _ (World.block_lt_of_cell? W3 _ hc) (fun e => hne (Option.some.inj e)))).trans hc
theorem OnSt.crst {W3 W w : World} {X0 : Nat} (h : OnSt W3 X0 W) {p : Option Addr} {N : Nat} {M : List Ed} {l : List Int} {X Y sb sg : Nat} (hc : CrSt p N M l X Y sb sg W3)
    (hw : NetAt p N M w) (hB : Below w.heap.size w W3) (h0 : w.heap.size ≤ X0) (h1 : X0 < X) (h2 : X0 < Y) (h3 : X0 < sb) (h4 : X0 < sg) : CrSt p N M l X Y sb sg W :=
  ⟨h.cell hc.1 (by simp; omega), hw.over (hB.grown h hB.size (fun k e => by cases e; exact h0)), h.cell hc.2.2.1 (by simp; omega),
    hc.2.2.2.past h (fun e => by injection e; omega) (fun e => by injection e; omega)⟩
theorem wt_at {M : List Ed} {x : Int} (h : 0 ≤ x ∧ x < M.length) : wtN M x = (atE M x).2.2 := by
  unfold wtN atE
  rw [dif_pos h, List.getD_eq_getElem?_getD, List.getElem?_eq_getElem (show x.toNat < M.length by omega)]
  rfl
theorem take_past (pre : List Int) (x : Int) (rest : List Int) : (pre ++ x :: rest).take (pre.length + 1) = pre ++ [x] := by
  rw [show pre ++ x :: rest = (pre ++ [x]) ++ rest by simp]
  exact List.take_left' (by simp)
/-- What some of those that cross weigh fits. -/
theorem wt_part {N : Nat} {M : List Ed} (hG : GoodN N M) (S : Int → Bool) (k : Nat) : 0 ≤ wtL M ((crossL M S M.length).take k) ∧ wtL M ((crossL M S M.length).take k) ≤ 2251799813685248 := by
  have hn := hG.non
  have hnn : ∀ x, 0 ≤ wtN M x := fun x => by
    unfold wtN
    rw [List.getD_eq_getElem?_getD]
    cases hx : M[x.toNat]? with
    | none => simp
    | some e => exact hn e (List.mem_of_getElem? hx)
  have hpos : ∀ c : List Int, 0 ≤ wtL M c := fun c => by
    induction c with
    | nil => exact Int.le_refl _
    | cons x c ih => have := hnn x; have e : wtL M (x :: c) = wtN M x + wtL M c := by unfold wtL; simp
                     omega
  refine ⟨hpos _, ?_⟩
  have h1 : wtL M (crossL M S M.length) = wtL M ((crossL M S M.length).take k) + wtL M ((crossL M S M.length).drop k) := by
    conv => lhs; rw [← List.take_append_drop k (crossL M S M.length)]
    unfold wtL
    rw [List.map_append, List.sum_append]
  have h2 := hpos ((crossL M S M.length).drop k)
  have h3 := cut_le_all hn S
  have h4 := wt_all (M := M) S
  have h5 := hG.2.2
  omega
set_option maxRecDepth 100000 in
set_option maxHeartbeats 2000000 in
theorem sideWeight_any (p : Option Addr) (N : Nat) (M : List Ed) (hN : N ≤ 4096) (hG : GoodN N M) (hM : M.length ≤ 1048576) (b : Option Addr) (d : Nat) (l : List Int) (hl : l.length ≤ 100000) (w : World) (h : NetAt p N M w) (hS : ReadsL encZ w.heap.size w b l) :
    Calls Tryd.prog 44 #[.pointer p, .slice b l.length d] w fun e w' => e = .returned (.tuple #[.int .i64 (if chkS (N : Int) l = 0 then cutW M (inS l) else 0), .int .i64 (chkS (N : Int) l)]) ∧ Below w.heap.size w w' := by
  have HN := Lib.hid h
  have HS := Lib.hid hS
  have HC := Lib.hid (fun w1 hb => sideCheck_any (N : Int) b d l (by omega) w1 (hS.over hb (Nat.le_refl _)))
  have HNum := Lib.hid (num_any p N M w h)
  by_cases hk : chkS (N : Int) l = 0
  · rw [if_pos hk, hk]
    rw [hk] at HC
    have HG := Lib.hid hG
    clear h hS hk hG
    refine (callsIn_wide (n := 3)).1 ?_
    have h1 : 1 ≤ 3 := by decide
    refine callsIn_of_wp_marks Tryd.func44 rfl trivial ?_ rfl
    simp only [Tryd.ntmps44, List.size_toArray, List.length_cons, List.length_nil, Nat.reduceAdd, Nat.reduceSub, Array.replicate_succ, Array.replicate_zero, List.push_toArray, List.append_toArray, List.nil_append, List.cons_append]
    gi_wp2_with fail
    first | gi_at_call 22 | (refine ⟨trivial, ?_⟩; gi_at_call 22)
    refine (callsIn_wide.2 HNum.out).mono ?_
    rintro e w1 ⟨rfl, hb1⟩
    have HB1 := Lib.hid hb1
    have HS1 := Lib.hid (HS.out.over hb1 (Nat.le_refl _))
    clear hb1 HNum
    gi_wp2_with fail
    first | gi_at_call 61 | (refine ⟨trivial, ?_⟩; gi_at_call 61)
    refine (callsIn_wide.2 (HC.out w1 HB1.out)).mono ?_
    rintro e w2 ⟨rfl, hb2⟩
    have hb2' := hb2.alloc hb2.size (.cells #[.int .i64 0] 2)
    have HB2 := Lib.hid (HB1.out.trans (hb2'.mono HB1.out.size))
    have HS2 := Lib.hid (HS1.out.over hb2' (Nat.le_refl _))
    have HX2 := Lib.hid (Boxed.new w2 2 (.int .i64 0))
    have HX0 : Hid (w.heap.size ≤ w2.heap.size) := Lib.hid (HB1.out.trans (hb2.mono HB1.out.size)).size
    clear hb2 hb2' HC HS1 HB1
    gi_wp2_with fail
    first | gi_at_call 62 | (refine ⟨trivial, ?_⟩; gi_at_call 62)
    have HN2 := Lib.hid (HN.out.over HB2.out)
    have HXL : Hid (w2.heap.size < (w2.alloc (.cells #[.int .i64 0] 2)).heap.size) := Lib.hid (by simp)
    generalize w2.alloc (.cells #[.int .i64 0] 2) = W2 at *
    generalize w2.heap.size = X0 at *
    refine (callsIn_wide.2 (crossing_any p N M hN b d l hl W2 HN2.out HS2.out)).mono ?_
    rintro e w3 ⟨hb3, X, Y, sb, sg, ⟨q1, q2, q3, q4⟩, rfl, hcr⟩
    gi_wp2_with fail
    have HB3 := Lib.hid (HB2.out.trans (hb3.mono HB2.out.size))
    have HX3 : Hid (Boxed w3 X0 2 (.int .i64 0)) := Lib.hid ((hb3.block X0 HXL.out).trans HX2.out)
    have HCr := Lib.hid hcr
    have HQ : Hid (X0 < X ∧ X0 < Y ∧ X0 < sb ∧ X0 < sg) := Lib.hid (by have := HXL.out; omega)
    have HX3L : Hid (X0 < w3.heap.size) := Lib.hid (Nat.lt_of_lt_of_le HXL.out hb3.size)
    have HPart := Lib.hid (wt_part HG.out (inS l))
    clear hb3 hcr q1 q2 q3 q4 HB2 HS2 HX2 HN2 HXL
    refine range_shut (α := Int) h1 (gf := 76) (caps := #[.pointer (some ⟨X, 0, none⟩), .pointer (some ⟨Y, 0, none⟩)]) rfl (enters_of Tryd.func76 (by kernel_rfl) rfl) (fun x => .int .i64 x) (fun x => encE (atE M x)) (crossL M (inS l) M.length)
      (fun pre W => Boxed W X0 2 (.int .i64 (wtL M pre)) ∧ OnSt w3 X0 W)
      (OwnFrom.and (Own.from (boxed_own X0 2 (fun pre => .int .i64 (wtL M pre))) _) (onSt_own w3 X0))
      (fun ys W W' hj hb => ⟨(hb.block X0 hj.1.lt).trans hj.1, hj.2.below hb⟩) ⟨HX3.out, grown_refl _ _⟩ ?hit
      (fun x bb => { tmps := #[.pointer p, .slice b l.length d, undef, undef, .int .i64 0, .int .i64 0, .int .i64 0, .pointer (some ⟨X0, 0, none⟩), undef, .pointer (some ⟨bb, 0, none⟩), .pointer p, .int .i64 (N : Int), .slice b l.length d, .int .i64 0, .int .i64 0, .bool false, undef, .pointer p, .slice b l.length d, .func (.func 76) #[] #[.pointer (some ⟨X, 0, none⟩), .pointer (some ⟨Y, 0, none⟩)], .int .i64 x, encE (atE M x), undef, undef, undef, undef, undef], defers := [] })
      (fun x W => W.alloc (.cells #[.int .i64 (atE M x).1, .int .i64 (atE M x).2.1, .int .i64 (atE M x).2.2] 54))
      (fun x bb W => W.cell? ⟨bb, 2, none⟩ = some (.int .i64 (atE M x).2.2)) ?hE ?haw ?assign ?body ?done
    case hit =>
      intro lp J W hJ hJB hY h0
      exact cross_in 2 (by decide) lp X Y sb sg p N M HG.out hM l J
        (fun ys V hj => (hJ ys V hj).2.crst HCr.out HN.out HB3.out HX0.out HQ.out.1 HQ.out.2.1 HQ.out.2.2.1 HQ.out.2.2.2) hJB hY W h0
    case hE =>
      intro bb
      exact fun x A B row hs hg hr => cell_kept hs hg (fun r e => (hr r e).2)
    case haw =>
      intro x W
      exact ⟨(Below.refl _ _).alloc (Nat.le_refl _) _, (ThreeAt.new W (.int .i64 (atE M x).1) (.int .i64 (atE M x).2.1) (.int .i64 (atE M x).2.2) 54).2.2.1⟩
    case assign =>
      intro lp x W K hK
      obtain ⟨u, v, z, he⟩ : ∃ u v z, atE M x = (u, v, z) := ⟨_, _, _, rfl⟩
      unfold encE at hK ⊢
      rw [he] at hK ⊢
      simp only at hK ⊢
      gi_wp2
      exact hK
    case body =>
      rintro lp pre x rest bb W hx ⟨hbx, hon⟩ hce
      have hc := hbx.cell
      have hf := hbx.frozen
      obtain ⟨y1, y2⟩ := HPart.out pre.length
      obtain ⟨y3, y4⟩ := HPart.out (pre.length + 1)
      have hwx : wtN M x = (atE M x).2.2 := wt_at (cross_mem (Nat.le_refl _) (by rw [hx]; simp))
      rw [hx, List.take_left' rfl] at y1 y2
      rw [hx, take_past pre x rest, wt_snoc, hwx] at y3 y4
      have HW : Hid (wtL M (pre ++ [x]) = wtL M pre + (atE M x).2.2) := Lib.hid (by rw [wt_snoc, hwx])
      clear hx hwx
      generalize (atE M x).2.2 = z at *
      generalize encE (atE M x) = ev at *
      have HBX := Lib.hid hbx
      have HON := Lib.hid hon
      clear hbx hon
      generalize wtL M pre = S at *
      have e1 : IntKind.i64.wrap (S + z) = S + z := IntWalk.i64_in _ (by omega)
      gi_wp2
      refine ⟨KeepsFrom.of_grownBy (grownBy_setCell' W X0 _) (fun j e => by cases e; exact HX3L.out), ?_, ?_⟩
      · rw [HW.out]; exact HBX.out.set _
      · exact grown_trans HON.out (grownBy_setCell' W X0 _)
    case done =>
      rintro D W hD ⟨hbx, hon⟩ hK
      have hc := hbx.cell
      rw [wt_all] at hc
      gi_wp2
      refine ⟨by simp, .inl ⟨_, _, rfl, run_takeDeferred hK, ?_⟩⟩
      have hB : Below w.heap.size w W := HB3.out.grown hon HB3.out.size (fun k e => by cases e; exact HX0.out)
      refine ⟨.tuple #[.int .i64 (cutW M (inS l)), .int .i64 0], by simp [results, Tryd.results44, go_sem], rfl, ?_⟩
      exact hB.trans (belowK_b (w := w) (Nat.le_refl _) W D _ _ (Nat.le_trans HB3.out.size hD) hK rfl rfl)
  · rw [if_neg hk]
    have t : (chkS (N : Int) l != 0) = true := by simpa using hk
    clear hk hS
    generalize chkS (N : Int) l = z at *
    go_enter Tryd.func44, Tryd.ntmps44
    go_wp2_with fail
    refine HNum.out.mono ?_
    rintro e w1 ⟨rfl, hb1⟩
    have HB1 := Lib.hid hb1
    have HC1 := Lib.hid (HC.out w1 hb1)
    clear hb1
    go_wp2_with fail
    refine HC1.out.mono ?_
    rintro e w2 ⟨rfl, hb2⟩
    have HB2 := Lib.hid (HB1.out.trans (hb2.mono HB1.out.size))
    clear hb2
    go_wp2
    go_ret2
    exact ⟨rfl, HB2.out⟩
/-- A number more behind the caller's list. -/
theorem boxed_put {W3 W w1 : World} {X0 : Nat} {t e : TypeId} {v v' : Value} {k m : Nat} {xs ys : List Value} {tmp : Obj} (hv : Boxed W X0 t v) (hte : t ≠ e) (hrow : W.ownsRow W3.heap.size e 1 v k xs) (hon : OnSt W3 X0 W)
    (hown' : w1.ownsRow W3.heap.size e 1 v' m ys) (hgrow : (W.alloc tmp).grownBy w1 v.ownBlock) :
    Boxed w1 X0 t v ∧ Boxed (w1.setCell ⟨X0, 0, none⟩ v') X0 t v' ∧ (w1.setCell ⟨X0, 0, none⟩ v').ownsRow W3.heap.size e 1 v' m ys ∧ KeepsOthers W (w1.setCell ⟨X0, 0, none⟩ v') ∧ OnSt W3 X0 (w1.setCell ⟨X0, 0, none⟩ v') := by
  have hv1 : Boxed w1 X0 t v := (hv.alloc tmp).kept hgrow (hv.not_row hte hrow)
  refine ⟨hv1, hv1.set v', hown'.kept (grownBy_setCell' w1 X0 v') (.inr (hv1.not_row hte hown').symm), ?_, ?_⟩
  · refine ((KeepsOthers.alloc W tmp).trans (KeepsOthers.of_grownBy hgrow fun j o ej hj => ?_)).trans (KeepsOthers.setCell _ _ _)
    rcases (hrow.alloc tmp).2 with ⟨rfl, _⟩ | ⟨g, cap, cur, rfl, _, hgb, _⟩
    · simp [Value.ownBlock] at ej
    · obtain rfl : g = j := by simpa [Value.ownBlock] using ej
      rw [hgb] at hj; cases hj; rfl
  · have h1 : OnSt W3 X0 (W.alloc tmp) := hon.below ((Below.refl _ _).alloc (Nat.le_refl _) _)
    have h2 : OnSt W3 X0 w1 := ⟨hgrow.os.trans h1.os, hgrow.tape.trans h1.tape, hgrow.output.trans h1.output, Nat.le_trans h1.size hgrow.size, fun j hj hx => (hgrow.block j (Nat.lt_of_lt_of_le hj h1.size) (fun e => by have := (hrow.lt j e.symm).1; omega)).trans (h1.block j hj hx)⟩
    exact grown_trans h2 (grownBy_setCell' w1 X0 v')
theorem owns_set {w : World} {B X : Nat} {v : Value} {n : Nat} {xs : List Value} (h : w.ownsRow B 3 1 v n xs) (hX : X < B) (i : Nat) (u : Value) : (w.setCell ⟨X, i, none⟩ u).ownsRow B 3 1 v n xs :=
  h.kept (Vs.grown_cell w X i u) (by
    cases e : v.ownBlock with
    | none => exact Or.inl rfl
    | some j => exact Or.inr (fun e2 => by injection e2 with e2; have := (h.lt j e).1; omega))
set_option maxRecDepth 100000 in
set_option maxHeartbeats 1000000 in
theorem sideRight_any (p : Option Addr) (N : Nat) (M : List Ed) (hN : N ≤ 4096) (hG : GoodN N M) (hM : M.length ≤ 1048576) (x : Int) (b : Option Addr) (d : Nat) (l : List Int) (hl : l.length ≤ 100000) (w : World) (h : NetAt p N M w) (hS : ReadsL encZ w.heap.size w b l) :
    Calls Tryd.prog 15 #[.pointer p, .agg #[.int .i64 x, .slice b l.length d]] w fun e w' => e = .returned (.bool (decide (chkS (N : Int) l = 0) && decide (cutW M (inS l) = x))) ∧ Below w.heap.size w w' := by
  have hb0 : Below w.heap.size w (w.alloc (.cells #[.int .i64 x, .slice b l.length d] 31)) := (Below.refl _ _).alloc (Nat.le_refl _) _
  have HW := Lib.hid (sideWeight_any p N M hN hG hM b d l hl _ (h.over hb0) (hS.over hb0 (Nat.le_refl _)))
  have HT := Lib.hid (TwoAt.new w (.int .i64 x) (.slice b l.length d) 31)
  have HB := Lib.hid hb0
  clear h hS hb0
  by_cases hk : chkS (N : Int) l = 0
  · rw [if_pos hk, hk] at HW
    have HP : Hid ((decide (chkS (N : Int) l = 0) && decide (cutW M (inS l) = x)) = (cutW M (inS l) == x)) := Lib.hid (by
      rw [decide_eq_true hk, Bool.true_and]
      by_cases e : cutW M (inS l) = x <;> simp [e])
    rw [HP.out]
    clear hk HP
    generalize cutW M (inS l) = y at *
    obtain ⟨c0, c1, -, -⟩ := HT.out
    go_enter Tryd.func15, Tryd.ntmps15
    go_wp2_with fail
    generalize w.alloc (.cells #[.int .i64 x, .slice b l.length d] 31) = W0 at *
    refine HW.out.mono ?_
    rintro e w1 ⟨rfl, hb1⟩
    have HB1 := Lib.hid (HB.out.trans (hb1.mono HB.out.size))
    have HT1 := Lib.hid (HT.out.on hb1 HT.out.lt)
    clear hb1 c0 c1
    obtain ⟨c0, c1, -, -⟩ := HT1.out
    go_wp2
    go_ret
    exact ⟨rfl, HB1.out⟩
  · rw [if_neg hk] at HW
    have HP : Hid ((decide (chkS (N : Int) l = 0) && decide (cutW M (inS l) = x)) = false) := Lib.hid (by rw [decide_eq_false hk, Bool.false_and])
    rw [HP.out]
    have t : (chkS (N : Int) l == 0) = false := by simpa using hk
    clear hk HP
    generalize chkS (N : Int) l = z at *
    obtain ⟨c0, c1, -, -⟩ := HT.out
    go_enter Tryd.func15, Tryd.ntmps15
    go_wp2_with fail
    generalize w.alloc (.cells #[.int .i64 x, .slice b l.length d] 31) = W0 at *
    refine HW.out.mono ?_
    rintro e w1 ⟨rfl, hb1⟩
    have HB1 := Lib.hid (HB.out.trans (hb1.mono HB.out.size))
    clear hb1 c0 c1
    go_wp2
    go_ret
    exact ⟨rfl, HB1.out⟩
end Go.Proofs.YtceejjgmepaonaaDoor.Sd
