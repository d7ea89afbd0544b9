/- Contracts of what side tells: Weight, Crossing, Cut, Parts, Right. -/
import Derived.Test.YtbankocbncpepaaPk22
import Derived.Test.YtbankocbncpepaaPk24
namespace Go.Proofs.Ytbankocbncpepaa.Sd
open Go.RowKit Go.ChangeShapes EdPure NtPure CutPure SdPure Cm Vs
attribute [local go_sem] Oper.semAt_some
/-- Only the caller's variable is turned since the range's function was made. -/
def OnSt (W3 : World) (X0 : Nat) (W : World) : Prop := W3.grownBy W (some X0)
theorem OnSt.below {W3 W W' : World} {X0 : Nat} (h : OnSt W3 X0 W) (hb : Below W.heap.size W W') : OnSt W3 X0 W' :=
  ⟨hb.os.trans h.os, hb.tape.trans h.tape, hb.output.trans h.output, Nat.le_trans h.size hb.size, fun k hk hr => (hb.block k (Nat.lt_of_lt_of_le hk h.size)).trans (h.block k hk hr)⟩
theorem onSt_own {β : Type} (W3 : World) (X0 : Nat) : OwnFrom W3.heap.size (fun (_ : β) W => OnSt W3 X0 W) :=
  fun _ W W' row h hg hr => ⟨hg.os.trans h.os, hg.tape.trans h.tape, hg.output.trans h.output, Nat.le_trans h.size hg.size, fun k hk hx => (hg.block k (Nat.lt_of_lt_of_le hk h.size) (fun e => by have := (hr k e.symm).1; omega)).trans (h.block k hk hx)⟩
theorem OnSt.cell {W3 W : World} {X0 : Nat} (h : OnSt W3 X0 W) {p : Addr} {v : Value} (hc : W3.cell? p = some v) (hne : p.block ≠ X0) : W.cell? p = some v :=
  (World.cell?_of_block (h.block _ (World.block_lt_of_cell? W3 _ hc) (fun e => hne (Option.some.inj e)))).trans hc
theorem OnSt.crst {W3 W w : World} {X0 : Nat} (h : OnSt W3 X0 W) {p : Option Addr} {N : Nat} {M : List Ed} {l : List Int} {X Y sb sg : Nat} (hc : CrSt p N M l X Y sb sg W3)
    (hw : NetAt p N M w) (hB : Below w.heap.size w W3) (h0 : w.heap.size ≤ X0) (h1 : X0 < X) (h2 : X0 < Y) (h3 : X0 < sb) (h4 : X0 < sg) : CrSt p N M l X Y sb sg W :=
  ⟨h.cell hc.1 (by simp; omega), hw.over (hB.grown h hB.size (fun k e => by cases e; exact h0)), h.cell hc.2.2.1 (by simp; omega),
    hc.2.2.2.past h (fun e => by injection e; omega) (fun e => by injection e; omega)⟩
theorem wt_at {M : List Ed} {x : Int} (h : 0 ≤ x ∧ x < M.length) : wtN M x = (atE M x).2.2 := by
  unfold wtN atE
  rw [dif_pos h, List.getD_eq_getElem?_getD, List.getElem?_eq_getElem (show x.toNat < M.length by omega)]
  rfl
theorem take_past (pre : List Int) (x : Int) (rest : List Int) : (pre ++ x :: rest).take (pre.length + 1) = pre ++ [x] := by
  rw [show pre ++ x :: rest = (pre ++ [x]) ++ rest by simp]
  exact List.take_left' (by simp)
/-- What some of those that cross weigh fits. -/
theorem wt_part {N : Nat} {M : List Ed} (hG : GoodN N M) (S : Int → Bool) (k : Nat) : 0 ≤ wtL M ((crossL M S M.length).take k) ∧ wtL M ((crossL M S M.length).take k) ≤ 2251799813685248 := by
  have hn := hG.non
  have hnn : ∀ x, 0 ≤ wtN M x := fun x => by
    unfold wtN
    rw [List.getD_eq_getElem?_getD]
    cases hx : M[x.toNat]? with
    | none => simp
    | some e => exact hn e (List.mem_of_getElem? hx)
  have hpos : ∀ c : List Int, 0 ≤ wtL M c := fun c => by
    induction c with
    | nil => exact Int.le_refl _
    | cons x c ih => have := hnn x; have e : wtL M (x :: c) = wtN M x + wtL M c := by unfold wtL; simp
                     omega
  refine ⟨hpos _, ?_⟩
  have h1 : wtL M (crossL M S M.length) = wtL M ((crossL M S M.length).take k) + wtL M ((crossL M S M.length).drop k) := by
    conv => lhs; rw [← List.take_append_drop k (crossL M S M.length)]
    unfold wtL
    rw [List.map_append, List.sum_append]
  have h2 := hpos ((crossL M S M.length).drop k)
  have h3 := cut_le_all hn S
  have h4 := wt_all (M := M) S
  have h5 := hG.2.2
  omega
set_option maxRecDepth 100000 in
set_option maxHeartbeats 2000000 in
theorem sideWeight_any (p : Option Addr) (N : Nat) (M : List Ed) (hN : N ≤ 4096) (hG : GoodN N M) (hM : M.length ≤ 1048576) (b : Option Addr) (d : Nat) (l : List Int) (hl : l.length ≤ 100000) (w : World) (h : NetAt p N M w) (hS : ReadsL encZ w.heap.size w b l) :
    Calls Try.prog 8 #[.pointer p, .slice b l.length d] w fun e w' => e = .returned (.tuple #[.int .i64 (if chkS (N : Int) l = 0 then cutW M (inS l) else 0), .int .i64 (chkS (N : Int) l)]) ∧ Below w.heap.size w w' := by
  have HN := Lib.hid h
  have HS := Lib.hid hS
  have HC := Lib.hid (fun w1 hb => sideCheck_any (N : Int) b d l (by omega) w1 (hS.over hb (Nat.le_refl _)))
  have HNum := Lib.hid (num_any p N M w h)
  by_cases hk : chkS (N : Int) l = 0
  · rw [if_pos hk, hk]
    rw [hk] at HC
    have HG := Lib.hid hG
    clear h hS hk hG
    refine (callsIn_wide (n := 3)).1 ?_
    have h1 : 1 ≤ 3 := by decide
    refine callsIn_of_wp_marks Try.func8 rfl trivial ?_ rfl
    simp only [Try.ntmps8, List.size_toArray, List.length_cons, List.length_nil, Nat.reduceAdd, Nat.reduceSub, Array.replicate_succ, Array.replicate_zero, List.push_toArray, List.append_toArray, List.nil_append, List.cons_append]
    gi_wp2_with fail
    first | gi_at_call 27 | (refine ⟨trivial, ?_⟩; gi_at_call 27)
    refine (callsIn_wide.2 HNum.out).mono ?_
    rintro e w1 ⟨rfl, hb1⟩
    have HB1 := Lib.hid hb1
    have HS1 := Lib.hid (HS.out.over hb1 (Nat.le_refl _))
    clear hb1 HNum
    gi_wp2_with fail
    first | gi_at_call 15 | (refine ⟨trivial, ?_⟩; gi_at_call 15)
    refine (callsIn_wide.2 (HC.out w1 HB1.out)).mono ?_
    rintro e w2 ⟨rfl, hb2⟩
    have hb2' := hb2.alloc hb2.size (.cells #[.int .i64 0] 2)
    have HB2 := Lib.hid (HB1.out.trans (hb2'.mono HB1.out.size))
    have HS2 := Lib.hid (HS1.out.over hb2' (Nat.le_refl _))
    have HX2 := Lib.hid (Boxed.new w2 2 (.int .i64 0))
    have HX0 : Hid (w.heap.size ≤ w2.heap.size) := Lib.hid (HB1.out.trans (hb2.mono HB1.out.size)).size
    clear hb2 hb2' HC HS1 HB1
    gi_wp2_with fail
    first | gi_at_call 28 | (refine ⟨trivial, ?_⟩; gi_at_call 28)
    have HN2 := Lib.hid (HN.out.over HB2.out)
    have HXL : Hid (w2.heap.size < (w2.alloc (.cells #[.int .i64 0] 2)).heap.size) := Lib.hid (by simp)
    generalize w2.alloc (.cells #[.int .i64 0] 2) = W2 at *
    generalize w2.heap.size = X0 at *
    refine (callsIn_wide.2 (crossing_any p N M hN b d l hl W2 HN2.out HS2.out)).mono ?_
    rintro e w3 ⟨hb3, X, Y, sb, sg, ⟨q1, q2, q3, q4⟩, rfl, hcr⟩
    gi_wp2_with fail
    have HB3 := Lib.hid (HB2.out.trans (hb3.mono HB2.out.size))
    have HX3 : Hid (Boxed w3 X0 2 (.int .i64 0)) := Lib.hid ((hb3.block X0 HXL.out).trans HX2.out)
    have HCr := Lib.hid hcr
    have HQ : Hid (X0 < X ∧ X0 < Y ∧ X0 < sb ∧ X0 < sg) := Lib.hid (by have := HXL.out; omega)
    have HX3L : Hid (X0 < w3.heap.size) := Lib.hid (Nat.lt_of_lt_of_le HXL.out hb3.size)
    have HPart := Lib.hid (wt_part HG.out (inS l))
    clear hb3 hcr q1 q2 q3 q4 HB2 HS2 HX2 HN2 HXL
    refine range_shut (α := Int) h1 (gf := 43) (caps := #[.pointer (some ⟨X, 0, none⟩), .pointer (some ⟨Y, 0, none⟩)]) rfl (enters_of Try.func43 (by kernel_rfl) rfl) (fun x => .int .i64 x) (fun x => encE (atE M x)) (crossL M (inS l) M.length)
      (fun pre W => Boxed W X0 2 (.int .i64 (wtL M pre)) ∧ OnSt w3 X0 W)
      (OwnFrom.and (Own.from (boxed_own X0 2 (fun pre => .int .i64 (wtL M pre))) _) (onSt_own w3 X0))
      (fun ys W W' hj hb => ⟨(hb.block X0 hj.1.lt).trans hj.1, hj.2.below hb⟩) ⟨HX3.out, grown_refl _ _⟩ ?hit
      (fun x bb => { tmps := #[.pointer p, .slice b l.length d, undef, undef, .int .i64 0, .int .i64 0, .int .i64 0, .pointer (some ⟨X0, 0, none⟩), undef, .pointer (some ⟨bb, 0, none⟩), .pointer p, .int .i64 (N : Int), .slice b l.length d, .int .i64 0, .int .i64 0, .bool false, undef, .pointer p, .slice b l.length d, .func (.func 43) #[] #[.pointer (some ⟨X, 0, none⟩), .pointer (some ⟨Y, 0, none⟩)], .int .i64 x, encE (atE M x), undef, undef, undef, undef, undef], defers := [] })
      (fun x W => W.alloc (.cells #[.int .i64 (atE M x).1, .int .i64 (atE M x).2.1, .int .i64 (atE M x).2.2] 58))
      (fun x bb W => W.cell? ⟨bb, 2, none⟩ = some (.int .i64 (atE M x).2.2)) ?hE ?haw ?assign ?body ?done
    case hit =>
      intro lp J W hJ hJB hY h0
      exact cross_in 2 (by decide) lp X Y sb sg p N M HG.out hM l J
        (fun ys V hj => (hJ ys V hj).2.crst HCr.out HN.out HB3.out HX0.out HQ.out.1 HQ.out.2.1 HQ.out.2.2.1 HQ.out.2.2.2) hJB hY W h0
    case hE =>
      intro bb
      exact fun x A B row hs hg hr => cell_kept hs hg (fun r e => (hr r e).2)
    case haw =>
      intro x W
      exact ⟨(Below.refl _ _).alloc (Nat.le_refl _) _, (ThreeAt.new W (.int .i64 (atE M x).1) (.int .i64 (atE M x).2.1) (.int .i64 (atE M x).2.2) 58).2.2.1⟩
    case assign =>
      intro lp x W K hK
      obtain ⟨u, v, z, he⟩ : ∃ u v z, atE M x = (u, v, z) := ⟨_, _, _, rfl⟩
      unfold encE at hK ⊢
      rw [he] at hK ⊢
      simp only at hK ⊢
      gi_wp2
      exact hK
    case body =>
      rintro lp pre x rest bb W hx ⟨hbx, hon⟩ hce
      have hc := hbx.cell
      have hf := hbx.frozen
      obtain ⟨y1, y2⟩ := HPart.out pre.length
      obtain ⟨y3, y4⟩ := HPart.out (pre.length + 1)
      have hwx : wtN M x = (atE M x).2.2 := wt_at (cross_mem (Nat.le_refl _) (by rw [hx]; simp))
      rw [hx, List.take_left' rfl] at y1 y2
      rw [hx, take_past pre x rest, wt_snoc, hwx] at y3 y4
      have HW : Hid (wtL M (pre ++ [x]) = wtL M pre + (atE M x).2.2) := Lib.hid (by rw [wt_snoc, hwx])
      clear hx hwx
      generalize (atE M x).2.2 = z at *
      generalize encE (atE M x) = ev at *
      have HBX := Lib.hid hbx
      have HON := Lib.hid hon
      clear hbx hon
      generalize wtL M pre = S at *
      have e1 : IntKind.i64.wrap (S + z) = S + z := IntWalk.i64_in _ (by omega)
      gi_wp2
      refine ⟨KeepsFrom.of_grownBy (grownBy_setCell' W X0 _) (fun j e => by cases e; exact HX3L.out), ?_, ?_⟩
      · rw [HW.out]; exact HBX.out.set _
      · exact grown_trans HON.out (grownBy_setCell' W X0 _)
    case done =>
      rintro D W hD ⟨hbx, hon⟩ hK
      have hc := hbx.cell
      rw [wt_all] at hc
      gi_wp2
      refine ⟨by simp, .inl ⟨_, _, rfl, run_takeDeferred hK, ?_⟩⟩
      have hB : Below w.heap.size w W := HB3.out.grown hon HB3.out.size (fun k e => by cases e; exact HX0.out)
      refine ⟨.tuple #[.int .i64 (cutW M (inS l)), .int .i64 0], by simp [results, Try.results8, go_sem], rfl, ?_⟩
      exact hB.trans (belowK_b (w := w) (Nat.le_refl _) W D _ _ (Nat.le_trans HB3.out.size hD) hK rfl rfl)
  · rw [if_neg hk]
    have t : (chkS (N : Int) l != 0) = true := by simpa using hk
    clear hk hS
    generalize chkS (N : Int) l = z at *
    go_enter Try.func8, Try.ntmps8
    go_wp2_with fail
    refine HNum.out.mono ?_
    rintro e w1 ⟨rfl, hb1⟩
    have HB1 := Lib.hid hb1
    have HC1 := Lib.hid (HC.out w1 hb1)
    clear hb1
    go_wp2_with fail
    refine HC1.out.mono ?_
    rintro e w2 ⟨rfl, hb2⟩
    have HB2 := Lib.hid (HB1.out.trans (hb2.mono HB1.out.size))
    clear hb2
    go_wp2
    go_ret2
    exact ⟨rfl, HB2.out⟩
/-- A number more behind the caller's list. -/
theorem boxed_put {W3 W w1 : World} {X0 : Nat} {t e : TypeId} {v v' : Value} {k m : Nat} {xs ys : List Value} {tmp : Obj} (hv : Boxed W X0 t v) (hte : t ≠ e) (hrow : W.ownsRow W3.heap.size e 1 v k xs) (hon : OnSt W3 X0 W)
    (hown' : w1.ownsRow W3.heap.size e 1 v' m ys) (hgrow : (W.alloc tmp).grownBy w1 v.ownBlock) :
    Boxed w1 X0 t v ∧ Boxed (w1.setCell ⟨X0, 0, none⟩ v') X0 t v' ∧ (w1.setCell ⟨X0, 0, none⟩ v').ownsRow W3.heap.size e 1 v' m ys ∧ KeepsOthers W (w1.setCell ⟨X0, 0, none⟩ v') ∧ OnSt W3 X0 (w1.setCell ⟨X0, 0, none⟩ v') := by
  have hv1 : Boxed w1 X0 t v := (hv.alloc tmp).kept hgrow (hv.not_row hte hrow)
  refine ⟨hv1, hv1.set v', hown'.kept (grownBy_setCell' w1 X0 v') (.inr (hv1.not_row hte hown').symm), ?_, ?_⟩
  · refine ((KeepsOthers.alloc W tmp).trans (KeepsOthers.of_grownBy hgrow fun j o ej hj => ?_)).trans (KeepsOthers.setCell _ _ _)
    rcases (hrow.alloc tmp).2 with ⟨rfl, _⟩ | ⟨g, cap, cur, rfl, _, hgb, _⟩
    · simp [Value.ownBlock] at ej
    · obtain rfl : g = j := by simpa [Value.ownBlock] using ej
      rw [hgb] at hj; cases hj; rfl
  · have h1 : OnSt W3 X0 (W.alloc tmp) := hon.below ((Below.refl _ _).alloc (Nat.le_refl _) _)
    have h2 : OnSt W3 X0 w1 := ⟨hgrow.os.trans h1.os, hgrow.tape.trans h1.tape, hgrow.output.trans h1.output, Nat.le_trans h1.size hgrow.size, fun j hj hx => (hgrow.block j (Nat.lt_of_lt_of_le hj h1.size) (fun e => by have := (hrow.lt j e.symm).1; omega)).trans (h1.block j hj hx)⟩
    exact grown_trans h2 (grownBy_setCell' w1 X0 v')
set_option maxRecDepth 100000 in
set_option maxHeartbeats 2000000 in
theorem sideCrossing_any (p : Option Addr) (N : Nat) (M : List Ed) (hN : N ≤ 4096) (hG : GoodN N M) (hM : M.length ≤ 1048576) (b : Option Addr) (d : Nat) (l : List Int) (hl : l.length ≤ 100000) (w : World) (h : NetAt p N M w) (hS : ReadsL encZ w.heap.size w b l) :
    Calls Try.prog 12 #[.pointer p, .slice b l.length d] w fun e w' => SideL (if chkS (N : Int) l = 0 then crossL M (inS l) M.length else []) (chkS (N : Int) l) w e w' := by
  have HN := Lib.hid h
  have HS := Lib.hid hS
  have HC := Lib.hid (fun w1 hb => sideCheck_any (N : Int) b d l (by omega) w1 (hS.over hb (Nat.le_refl _)))
  have HNum := Lib.hid (num_any p N M w h)
  by_cases hk : chkS (N : Int) l = 0
  · rw [if_pos hk, hk]
    rw [hk] at HC
    have HG := Lib.hid hG
    clear h hS hk hG
    refine (callsIn_wide (n := 3)).1 ?_
    have h1 : 1 ≤ 3 := by decide
    refine callsIn_of_wp_marks Try.func12 rfl trivial ?_ rfl
    simp only [Try.ntmps12, List.size_toArray, List.length_cons, List.length_nil, Nat.reduceAdd, Nat.reduceSub, Array.replicate_succ, Array.replicate_zero, List.push_toArray, List.append_toArray, List.nil_append, List.cons_append]
    gi_wp2_with fail
    first | gi_at_call 27 | (refine ⟨trivial, ?_⟩; gi_at_call 27)
    refine (callsIn_wide.2 HNum.out).mono ?_
    rintro e w1 ⟨rfl, hb1⟩
    have HB1 := Lib.hid hb1
    have HS1 := Lib.hid (HS.out.over hb1 (Nat.le_refl _))
    clear hb1 HNum
    gi_wp2_with fail
    first | gi_at_call 15 | (refine ⟨trivial, ?_⟩; gi_at_call 15)
    refine (callsIn_wide.2 (HC.out w1 HB1.out)).mono ?_
    rintro e w2 ⟨rfl, hb2⟩
    have hb2' := hb2.alloc hb2.size (.cells #[.slice none 0 0] 23)
    have HB2 := Lib.hid (HB1.out.trans (hb2'.mono HB1.out.size))
    have HS2 := Lib.hid (HS1.out.over hb2' (Nat.le_refl _))
    have HX2 := Lib.hid (Boxed.new w2 23 (.slice none 0 0))
    have HX0 : Hid (w.heap.size ≤ w2.heap.size) := Lib.hid (HB1.out.trans (hb2.mono HB1.out.size)).size
    clear hb2 hb2' HC HS1 HB1
    gi_wp2_with fail
    first | gi_at_call 28 | (refine ⟨trivial, ?_⟩; gi_at_call 28)
    have HN2 := Lib.hid (HN.out.over HB2.out)
    have HXL : Hid (w2.heap.size < (w2.alloc (.cells #[.slice none 0 0] 23)).heap.size) := Lib.hid (by simp)
    generalize w2.alloc (.cells #[.slice none 0 0] 23) = W2 at *
    generalize w2.heap.size = X0 at *
    refine (callsIn_wide.2 (crossing_any p N M hN b d l hl W2 HN2.out HS2.out)).mono ?_
    rintro e w3 ⟨hb3, X, Y, sb, sg, ⟨q1, q2, q3, q4⟩, rfl, hcr⟩
    gi_wp2_with fail
    have HB3 := Lib.hid (HB2.out.trans (hb3.mono HB2.out.size))
    have HX3 : Hid (Boxed w3 X0 23 (.slice none 0 0)) := Lib.hid ((hb3.block X0 HXL.out).trans HX2.out)
    have HCr := Lib.hid hcr
    have HQ : Hid (X0 < X ∧ X0 < Y ∧ X0 < sb ∧ X0 < sg) := Lib.hid (by have := HXL.out; omega)
    have HX3L : Hid (X0 < w3.heap.size) := Lib.hid (Nat.lt_of_lt_of_le HXL.out hb3.size)
    have HLen := Lib.hid (cross_len M (inS l) (Nat.le_refl _))
    obtain ⟨ti, hi1, hi2, hi3, hi4⟩ := info_int
    clear hb3 hcr q1 q2 q3 q4 HB2 HS2 HX2 HN2 HXL
    refine range_shut (α := Int) h1 (gf := 43) (caps := #[.pointer (some ⟨X, 0, none⟩), .pointer (some ⟨Y, 0, none⟩)]) rfl (enters_of Try.func43 (by kernel_rfl) rfl) (fun x => .int .i64 x) (fun x => encE (atE M x)) (crossL M (inS l) M.length)
      (fun pre W => (∃ v, Boxed W X0 23 v ∧ W.ownsRow w3.heap.size 3 1 v pre.length (pre.map encZ) ∧ True) ∧ OnSt w3 X0 W)
      (OwnFrom.and (Own.from (holdsRow_own w3.heap.size X0 23 3 1 (fun pre : List Int => pre.length) (fun pre => pre.map encZ) (fun _ _ => True)) _) (onSt_own w3 X0))
      (fun ys W W' hj hb => ⟨by obtain ⟨v, hv, hr, -⟩ := hj.1; exact ⟨v, (hb.block X0 hv.lt).trans hv, owns_below hr hb, trivial⟩, hj.2.below hb⟩) ⟨⟨_, HX3.out, World.ownsRow_nil _ _ _ _, trivial⟩, grown_refl _ _⟩ ?hit
      (fun x _ => { tmps := #[.pointer p, .slice b l.length d, undef, undef, .slice none 0 0, .int .i64 0, .int .i64 0, .pointer (some ⟨X0, 0, none⟩), .int .i64 x, .pointer p, .int .i64 (N : Int), .slice b l.length d, .int .i64 0, .int .i64 0, .bool false, undef, .pointer p, .slice b l.length d, .func (.func 43) #[] #[.pointer (some ⟨X, 0, none⟩), .pointer (some ⟨Y, 0, none⟩)], .int .i64 x, encE (atE M x), undef, undef, undef, undef, undef], defers := [] })
      (fun _ W => W) (fun _ _ _ => True) ?hE ?haw ?assign ?body ?done
    case hit =>
      intro lp J W hJ hJB hY h0
      exact cross_in 2 (by decide) lp X Y sb sg p N M HG.out hM l J
        (fun ys V hj => (hJ ys V hj).2.crst HCr.out HN.out HB3.out HX0.out HQ.out.1 HQ.out.2.1 HQ.out.2.2.1 HQ.out.2.2.2) hJB hY W h0
    case hE =>
      intro bb x A B row _ _ _
      trivial
    case haw =>
      intro x W
      exact ⟨Below.refl _ _, trivial⟩
    case assign =>
      intro lp x W K hK
      generalize encE (atE M x) = ev at *
      gi_wp2
      exact hK
    case body =>
      rintro lp pre x rest bb W hx ⟨⟨v, hv, hrow, -⟩, hon⟩ -
      have hc := hv.cell
      have hpl : pre.length + 1 ≤ 1048576 := by
        have := HLen.out
        rw [hx] at this
        simp at this
        omega
      have hws := hon.size
      have hl3 := HX3L.out
      clear hx
      generalize encE (atE M x) = ev at *
      gi_wp2_with (gi_at_builtin; refine wpListIn_append_own _ rfl _ _ 23 rfl w3.heap.size 3 ti (.int .i64 0) 1 8 Try.underlying23 hi1 hi2 hi3 hi4 rfl (by decide) _ _ _ rfl (hrow.alloc _) ⟨W.heap.size, 0, none⟩ 1 1 [.int .i64 x] rfl rfl (cell_one_new _ _ _) (by simp [Value.oneCell']) (by unfold maxLen; omega) (by omega) (by simp; omega) ?_; intro v' w1 hown' hgrow _; obtain ⟨g', cap', rfl⟩ := ownsRow_succ hown'; obtain ⟨hv1, hv2, hr2, hk2, ho2⟩ := boxed_put hv (by decide) hrow hon hown' hgrow; have hc1 := hv1.cell; have hf1 := hv1.frozen)
      exact ⟨hk2.from _, ⟨_, hv2, by simpa [encZ] using hr2, trivial⟩, ho2⟩
    case done =>
      rintro D W hD ⟨⟨v, hv, hrow, -⟩, hon⟩ hK
      have hc := hv.cell
      gi_wp2
      refine ⟨by simp, .inl ⟨_, _, rfl, run_takeDeferred hK, ?_⟩⟩
      have hrow2 := ownsRow_putObj hrow (.deferred none) hK rfl
      obtain ⟨a, cap, rfl, hrd, -⟩ := owns_readsL rfl hrow2
      have hB : Below w.heap.size w W := HB3.out.grown hon HB3.out.size (fun k e => by cases e; exact HX0.out)
      refine ⟨.tuple #[.slice a (crossL M (inS l) M.length).length cap, .int .i64 0], by simp [results, Try.results12, go_sem], ?_⟩
      exact ⟨hB.trans (belowK_b (w := w) (Nat.le_refl _) W D _ _ (Nat.le_trans HB3.out.size hD) hK rfl rfl), a, cap, rfl, hrd⟩
  · rw [if_neg hk]
    have t : (chkS (N : Int) l != 0) = true := by simpa using hk
    clear hk hS
    generalize chkS (N : Int) l = z at *
    go_enter Try.func12, Try.ntmps12
    go_wp2_with fail
    refine HNum.out.mono ?_
    rintro e w1 ⟨rfl, hb1⟩
    have HB1 := Lib.hid hb1
    have HC1 := Lib.hid (HC.out w1 hb1)
    clear hb1
    go_wp2_with fail
    refine HC1.out.mono ?_
    rintro e w2 ⟨rfl, hb2⟩
    have HB2 := Lib.hid (HB1.out.trans (hb2.mono HB1.out.size))
    clear hb2
    go_wp2
    go_ret2
    exact ⟨HB2.out, none, 0, rfl, ReadsL.nil _ _ _ _⟩
theorem owns_set {w : World} {B X : Nat} {v : Value} {n : Nat} {xs : List Value} (h : w.ownsRow B 3 1 v n xs) (hX : X < B) (i : Nat) (u : Value) : (w.setCell ⟨X, i, none⟩ u).ownsRow B 3 1 v n xs :=
  h.kept (Vs.grown_cell w X i u) (by
    cases e : v.ownBlock with
    | none => exact Or.inl rfl
    | some j => exact Or.inr (fun e2 => by injection e2 with e2; have := (h.lt j e).1; omega))
set_option maxRecDepth 100000 in
set_option maxHeartbeats 1000000 in
theorem sideCut_any (p : Option Addr) (N : Nat) (M : List Ed) (hN : N ≤ 4096) (hG : GoodN N M) (hM : M.length ≤ 1048576) (b : Option Addr) (d : Nat) (l : List Int) (hl : l.length ≤ 100000) (w : World) (h : NetAt p N M w) (hS : ReadsL encZ w.heap.size w b l) :
    Calls Try.prog 14 #[.pointer p, .slice b l.length d] w fun e w' => SideC (if chkS (N : Int) l = 0 then cutW M (inS l) else 0) (if chkS (N : Int) l = 0 then l else []) (chkS (N : Int) l) w e w' := by
  have hb0 : Below w.heap.size w (w.alloc (.cells #[.int .i64 0, .slice none 0 0] 34)) := (Below.refl _ _).alloc (Nat.le_refl _) _
  have HW := Lib.hid (sideWeight_any p N M hN hG hM b d l hl _ (h.over hb0) (hS.over hb0 (Nat.le_refl _)))
  have HT := Lib.hid (TwoAt.new w (.int .i64 0) (.slice none 0 0) 34)
  have HS := Lib.hid (hS.over hb0 (Nat.le_refl _))
  have HB := Lib.hid hb0
  clear h hS hb0
  by_cases hk : chkS (N : Int) l = 0
  · rw [if_pos hk, if_pos hk, hk]
    rw [if_pos hk, hk] at HW
    clear hk
    generalize cutW M (inS l) = x at *
    go_enter Try.func14, Try.ntmps14
    go_wp2_with fail
    generalize w.alloc (.cells #[.int .i64 0, .slice none 0 0] 34) = W0 at *
    refine HW.out.mono ?_
    rintro e w1 ⟨rfl, hb1⟩
    have HB1 := Lib.hid (HB.out.trans (hb1.mono HB.out.size))
    have HS1 := Lib.hid (HS.out.over hb1 (Nat.le_refl _))
    have HT1 := Lib.hid (HT.out.on hb1 HT.out.lt)
    clear hb1 HB HS HT HW
    go_wp2_with fail
    refine (Nn.cloneIO_any b d l (by omega) w1 HS1.out).mono ?_
    rintro e w2 ⟨hb2, v, rfl, ho⟩
    have HX : Hid (w.heap.size < w1.heap.size) := Lib.hid HT1.out.lt
    have HB2 := Lib.hid (HB1.out.trans (hb2.mono HB1.out.size))
    have HT2 := Lib.hid (HT1.out.on hb2 HT1.out.lt)
    obtain ⟨q, c, rfl, -, -⟩ := owns_readsL rfl ho
    have HZ : Hid (Below w.heap.size w ((w2.setCell ⟨w.heap.size, 0, none⟩ (.int .i64 x)).setCell ⟨w.heap.size, 1, none⟩ (.slice q l.length c))) :=
      Lib.hid ((HB2.out.setCell (p := ⟨w.heap.size, 0, none⟩) (Nat.le_refl _) _).setCell (p := ⟨w.heap.size, 1, none⟩) (Nat.le_refl _) _)
    have HR := Lib.hid (owns_set (owns_set ho HX.out 0 (.int .i64 x)) HX.out 1 (.slice q l.length c))
    have HT3 := Lib.hid (HT2.out.set (.int .i64 x) (.slice q l.length c))
    obtain ⟨c0, c1, f0, f1⟩ := HT2.out
    have hlt := HT2.out.lt
    clear hb2 ho HB1 HS1 HT1
    go_wp2
    obtain ⟨d0, d1, -, -⟩ := HT3.out
    refine bodyPost_ret (v := .tuple #[.agg #[.int .i64 x, .slice q l.length c], .int .i64 0]) (by simp [results, Try.results14, go_sem, d0, d1]) rfl ⟨HZ.out, q, c, rfl, ?_⟩
    obtain ⟨q', c', he, hr, -⟩ := owns_readsL rfl HR.out
    cases he
    exact hr
  · have t : (chkS (N : Int) l != 0) = true := by simpa using hk
    rw [if_neg hk, if_neg hk]
    rw [if_neg hk] at HW
    clear hk
    generalize chkS (N : Int) l = z at *
    go_enter Try.func14, Try.ntmps14
    go_wp2_with fail
    generalize w.alloc (.cells #[.int .i64 0, .slice none 0 0] 34) = W0 at *
    refine HW.out.mono ?_
    rintro e w1 ⟨rfl, hb1⟩
    have HB1 := Lib.hid (HB.out.trans (hb1.mono HB.out.size))
    have HT1 := Lib.hid (HT.out.on hb1 HT.out.lt)
    have HZ : Hid (Below w.heap.size w ((w1.setCell ⟨w.heap.size, 0, none⟩ (.int .i64 0)).setCell ⟨w.heap.size, 1, none⟩ (.slice none 0 0))) :=
      Lib.hid ((HB1.out.setCell (p := ⟨w.heap.size, 0, none⟩) (Nat.le_refl _) _).setCell (p := ⟨w.heap.size, 1, none⟩) (Nat.le_refl _) _)
    have HT3 := Lib.hid (HT1.out.set (.int .i64 0) (.slice none 0 0))
    obtain ⟨c0, c1, f0, f1⟩ := HT1.out
    have hlt := HT1.out.lt
    clear hb1 HB HS HT HW
    go_wp2
    obtain ⟨d0, d1, -, -⟩ := HT3.out
    exact bodyPost_ret (v := .tuple #[.agg #[.int .i64 0, .slice none 0 0], .int .i64 z]) (by simp [results, Try.results14, go_sem, d0, d1]) rfl ⟨HZ.out, none, 0, rfl, ReadsL.nil _ _ _ _⟩
set_option maxRecDepth 100000 in
set_option maxHeartbeats 1000000 in
theorem sideRight_any (p : Option Addr) (N : Nat) (M : List Ed) (hN : N ≤ 4096) (hG : GoodN N M) (hM : M.length ≤ 1048576) (x : Int) (b : Option Addr) (d : Nat) (l : List Int) (hl : l.length ≤ 100000) (w : World) (h : NetAt p N M w) (hS : ReadsL encZ w.heap.size w b l) :
    Calls Try.prog 10 #[.pointer p, .agg #[.int .i64 x, .slice b l.length d]] w fun e w' => e = .returned (.bool (decide (chkS (N : Int) l = 0) && decide (cutW M (inS l) = x))) ∧ Below w.heap.size w w' := by
  have hb0 : Below w.heap.size w (w.alloc (.cells #[.int .i64 x, .slice b l.length d] 34)) := (Below.refl _ _).alloc (Nat.le_refl _) _
  have HW := Lib.hid (sideWeight_any p N M hN hG hM b d l hl _ (h.over hb0) (hS.over hb0 (Nat.le_refl _)))
  have HT := Lib.hid (TwoAt.new w (.int .i64 x) (.slice b l.length d) 34)
  have HB := Lib.hid hb0
  clear h hS hb0
  by_cases hk : chkS (N : Int) l = 0
  · rw [if_pos hk, hk] at HW
    have HP : Hid ((decide (chkS (N : Int) l = 0) && decide (cutW M (inS l) = x)) = (cutW M (inS l) == x)) := Lib.hid (by
      rw [decide_eq_true hk, Bool.true_and]
      by_cases e : cutW M (inS l) = x <;> simp [e])
    rw [HP.out]
    clear hk HP
    generalize cutW M (inS l) = y at *
    obtain ⟨c0, c1, -, -⟩ := HT.out
    go_enter Try.func10, Try.ntmps10
    go_wp2_with fail
    generalize w.alloc (.cells #[.int .i64 x, .slice b l.length d] 34) = W0 at *
    refine HW.out.mono ?_
    rintro e w1 ⟨rfl, hb1⟩
    have HB1 := Lib.hid (HB.out.trans (hb1.mono HB.out.size))
    have HT1 := Lib.hid (HT.out.on hb1 HT.out.lt)
    clear hb1 c0 c1
    obtain ⟨c0, c1, -, -⟩ := HT1.out
    go_wp2
    go_ret
    exact ⟨rfl, HB1.out⟩
  · rw [if_neg hk] at HW
    have HP : Hid ((decide (chkS (N : Int) l = 0) && decide (cutW M (inS l) = x)) = false) := Lib.hid (by rw [decide_eq_false hk, Bool.false_and])
    rw [HP.out]
    have t : (chkS (N : Int) l == 0) = false := by simpa using hk
    clear hk HP
    generalize chkS (N : Int) l = z at *
    obtain ⟨c0, c1, -, -⟩ := HT.out
    go_enter Try.func10, Try.ntmps10
    go_wp2_with fail
    generalize w.alloc (.cells #[.int .i64 x, .slice b l.length d] 34) = W0 at *
    refine HW.out.mono ?_
    rintro e w1 ⟨rfl, hb1⟩
    have HB1 := Lib.hid (HB.out.trans (hb1.mono HB.out.size))
    clear hb1 c0 c1
    go_wp2
    go_ret
    exact ⟨rfl, HB1.out⟩
set_option maxHeartbeats 1000000 in
theorem partsD_any (n : Int) (b : Option Addr) (d : Nat) (l : List Int) (hl : l.length ≤ 1000000000) (u v : Int) (w : World) (hS : ReadsL encZ w.heap.size w b l) :
    Calls Try.prog 21 #[.int .i64 n, .slice b l.length d, .int .i64 u, .int .i64 v] w fun e w' => e = .returned (.bool (partsB n l u v)) ∧ ∃ m, w' = w.drewN m := by
  have HC := Lib.hid (checkD_any n b d l hl w hS)
  have HI := Lib.hid (fun hs x m => sideHas_any b d l hl hs x (w.drewN m) hS)
  have HP : Hid (partsB n l u v = (decide (chkS n l = 0) && (decide (0 ≤ u) && (decide (u < n) && (decide (0 ≤ v) && (decide (v < n) && (inS l u != inS l v))))))) := Lib.hid rfl
  have HSo : Hid (chkS n l = 0 → l.Pairwise (· < ·)) := Lib.hid (fun h => (chkS_ok h).1.2)
  clear hS
  generalize partsB n l u v = pb at *
  generalize chkS n l = z at *
  have fin : ∀ x, pb = x → ∀ m, Ending.returned (.bool x) = .returned (.bool pb) ∧ ∃ m', w.drewN m = w.drewN m' := fun x hx m => ⟨by rw [hx], m, rfl⟩
  have FIN := Lib.hid fin
  clear fin
  have HV := Lib.hid (fun x w => isV_any n x w)
  by_cases cu : (decide (0 ≤ u) && decide (u < n)) = true
  case neg =>
    have cu' : (decide (0 ≤ u) && decide (u < n)) = false := Bool.eq_false_iff.2 cu
    have HX : Hid (pb = false) := Lib.hid (by
      rw [HP.out]
      rcases Bool.and_eq_false_iff.1 cu' with e | e <;> rw [e] <;> simp)
    go_enter Try.func21, Try.ntmps21
    go_wp2_with fail
    refine (HV.out u w).mono ?_
    rintro e w1 ⟨rfl, rfl⟩
    rw [cu']
    clear cu cu'
    go_wp2
    go_ret
    exact FIN.out _ HX.out 0
  have HVu := Lib.hid (fun w => HV.out u w)
  rw [cu] at HVu
  by_cases cv : (decide (0 ≤ v) && decide (v < n)) = true
  case neg =>
    have cv' : (decide (0 ≤ v) && decide (v < n)) = false := Bool.eq_false_iff.2 cv
    have HX : Hid (pb = false) := Lib.hid (by
      rw [HP.out]
      rcases Bool.and_eq_false_iff.1 cv' with e | e <;> rw [e] <;> simp)
    have HVv := Lib.hid (fun w => HV.out v w)
    rw [cv'] at HVv
    clear cu cv cv'
    go_enter Try.func21, Try.ntmps21
    go_wp2_with fail
    refine (HVu.out w).mono ?_
    rintro e w1 ⟨rfl, rfl⟩
    go_wp2_with fail
    refine (HVv.out _).mono ?_
    rintro e w1 ⟨rfl, rfl⟩
    go_wp2
    go_ret
    exact FIN.out _ HX.out 0
  have HVv := Lib.hid (fun w => HV.out v w)
  rw [cv] at HVv
  obtain ⟨cu1, cu2⟩ := Bool.and_eq_true_iff.1 cu
  obtain ⟨cv1, cv2⟩ := Bool.and_eq_true_iff.1 cv
  have HX1 : Hid (pb = (decide (z = 0) && (inS l u != inS l v))) := Lib.hid (by rw [HP.out, cu1, cu2, cv1, cv2]; simp)
  clear cu cv cu1 cu2 cv1 cv2 HP HV
  by_cases c0 : z = 0
  · subst c0
    have HX : Hid (pb = (inS l u != inS l v)) := Lib.hid (by rw [HX1.out]; simp)
    have hs := HSo.out rfl
    have HIu := Lib.hid (fun m => HI.out hs u m)
    have HIv := Lib.hid (fun m => HI.out hs v m)
    clear hs HSo HI HX1
    generalize inS l u = su at *
    generalize inS l v = sv at *
    go_enter Try.func21, Try.ntmps21
    go_wp2_with fail
    refine (HVu.out w).mono ?_
    rintro e w1 ⟨rfl, rfl⟩
    go_wp2_with fail
    refine (HVv.out _).mono ?_
    rintro e w1 ⟨rfl, rfl⟩
    go_wp2_with fail
    refine HC.out.mono ?_
    rintro e w1 ⟨rfl, m, rfl⟩
    go_wp2_with fail
    refine (HIu.out m).mono ?_
    rintro e w1 ⟨rfl, m1, rfl⟩
    go_wp2_with fail
    refine (HIv.out _).mono ?_
    rintro e w1 ⟨rfl, m2, rfl⟩
    go_wp2
    go_ret
    exact FIN.out _ HX.out _
  · have HX : Hid (pb = false) := Lib.hid (by rw [HX1.out, decide_eq_false c0]; rfl)
    have t0 : (z == 0) = false := by simpa using c0
    clear c0 HSo HX1
    go_enter Try.func21, Try.ntmps21
    go_wp2_with fail
    refine (HVu.out w).mono ?_
    rintro e w1 ⟨rfl, rfl⟩
    go_wp2_with fail
    refine (HVv.out _).mono ?_
    rintro e w1 ⟨rfl, rfl⟩
    go_wp2_with fail
    refine HC.out.mono ?_
    rintro e w1 ⟨rfl, m, rfl⟩
    go_wp2
    go_ret
    exact FIN.out _ HX.out m
theorem sideParts_any (n : Int) (b : Option Addr) (d : Nat) (l : List Int) (hl : l.length ≤ 1000000000) (u v : Int) (w : World) (hS : ReadsL encZ w.heap.size w b l) :
    Calls Try.prog 21 #[.int .i64 n, .slice b l.length d, .int .i64 u, .int .i64 v] w fun e w' => e = .returned (.bool (partsB n l u v)) ∧ Below w.heap.size w w' :=
  (partsD_any n b d l hl u v w hS).mono fun _ _ ⟨he, m, hm⟩ => ⟨he, by rw [hm]; exact below_drewN (Below.refl _ _) m⟩
end Go.Proofs.Ytbankocbncpepaa.Sd
