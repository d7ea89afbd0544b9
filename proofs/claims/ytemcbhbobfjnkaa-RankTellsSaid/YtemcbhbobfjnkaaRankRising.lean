/- Contracts of slices.Values, AppendSeq, Collect and Sorted at int64, and of rising: the keys in order, in a slice of the call's own. -/
import Derived.Test.YtemcbhbobfjnkaaRankSort
import Derived.Test.YtemcbhbobfjnkaaRankShelf
import Derived.RangeFuncNested
import Derived.RangeFuncBound
import Derived.RangeFuncCalls
import Derived.RangeFuncLeaves
import Derived.RangeFuncBox
import Derived.Shelf.RegionOpen
import Derived.OwnWalkIn
import Derived.TacticsInMore
import Derived.LoopNIn
import Derived.LoopIn
import Derived.Maps.AppendAt
namespace Go.Proofs.Ytemcbhbobfjnkaa
open Go.RowKit Go.ChangeShapes RankPure
open Go.Sort hiding Below
attribute [local go_sem] Oper.semAt_some
set_option maxRecDepth 100000 in
set_option maxHeartbeats 1000000 in
/-- The values of a slice, one by one, while what lay below N0 stays. -/
theorem values_each (n : Nat) (hn : 1 ≤ n) (l B N0 : Nat) (a : Option Addr) (c : Nat) (ks : List Int) (hlen : ks.length ≤ 1000) (J Jx : List Int → World → Prop)
    (hY : ∀ pre x W, J pre W → pre.length < ks.length → YieldAt Fence.wide (n - 1) Try.prog l #[encZ x] W fun e W' =>
      (e = .returned (.bool true) ∧ J (pre ++ [x]) W' ∧ Below N0 W W') ∨ (e = .returned (.bool false) ∧ Jx (pre ++ [x]) W'))
    (W : World) (hB : W.cell? ⟨B, 0, none⟩ = some (.slice a ks.length c)) (hR : ReadsL encZ N0 W a ks) (h0 : J [] W) :
    CallsIn Fence.wide n Try.prog 38 #[.func (.yield l) #[] #[], .pointer (some ⟨B, 0, none⟩)] W fun e W' => (∃ v, e = .returned v) ∧
      ((∃ ys, ys = ks ∧ J ys W') ∨ (∃ pre, True ∧ Jx pre W')) := by
  refine callsIn_of_wp Try.func38 rfl trivial ?_ rfl
  simp only [Try.ntmps38, List.size_toArray, List.length_cons, List.length_nil, Nat.reduceAdd, Nat.reduceSub, Array.replicate_succ, Array.replicate_zero, List.push_toArray, List.append_toArray, List.nil_append, List.cons_append]
  have HL := Lib.hid hR
  clear hR
  gi_wp2
  gi_loopw [7] (fun i wr => ∃ k : Nat, i = .int .i64 k ∧ Hid (k ≤ ks.length ∧ J (ks.take k) wr ∧ Below N0 W wr)) (fun i _ => ks.length - (intOf i).toNat)
  case atStart => exact ⟨0, rfl, Lib.hid ⟨Nat.zero_le _, h0, Below.refl _ _⟩⟩
  case round =>
    obtain ⟨k, rfl, HK⟩ := hrel
    have hk := HK.out.1
    by_cases hlt : k < ks.length
    · obtain ⟨b, off, rfl, hbN, hc⟩ := (HL.out.on HK.out.2.2).at hlt
      obtain ⟨fn, tmps, assign, body, hy, hRd⟩ := hY _ ks[k] wr HK.out.2.1 (by rw [List.length_take]; omega)
      have HT : Hid (ks.take (k + 1) = ks.take k ++ [ks[k]]) := Lib.hid (take_snoc ks k hlt)
      have HRd := Lib.hid hRd
      have i1 : (k : Int) < (ks.length : Int) := by omega
      clear hRd hY
      unfold encZ at hc hy
      generalize ks[k] = x at *
      gi_wp2
      refine HRd.out.mono ?_
      rintro e W3 (⟨rfl, hJ3, hk3⟩ | ⟨rfl, hJx3⟩)
      · have HN : Hid (k + 1 ≤ ks.length ∧ J (ks.take (k + 1)) W3 ∧ Below N0 W W3) := Lib.hid ⟨hlt, by rw [HT.out]; exact hJ3, HK.out.2.2.trans hk3⟩
        clear hJ3 hk3
        gi_wp2
        go_roundw
        case rel => exact ⟨k + 1, by go_num, HN⟩
        case measure => (simp [intOf] <;> omega)
      · have HX := Lib.hid hJx3
        clear hJx3
        gi_wp2
        refine bodyPost_ret (results_none rfl _ _ _) rfl ?_
        exact ⟨⟨_, rfl⟩, .inr ⟨_, trivial, HX.out⟩⟩
    · have hke : k = ks.length := by omega
      have HJ : Hid (J ks wr) := Lib.hid (by have := HK.out.2.1; rwa [hke, List.take_length] at this)
      gi_wp2
      go_end0
      exact ⟨⟨_, rfl⟩, .inl ⟨_, rfl, HJ.out⟩⟩
theorem values_stops (n : Nat) (hn : 1 ≤ n) (B N0 : Nat) (a : Option Addr) (c : Nat) (ks : List Int) (hlen : ks.length ≤ 1000) (w : World) (hBw : B < w.heap.size) (hN0 : N0 ≤ w.heap.size)
    (hB : w.cell? ⟨B, 0, none⟩ = some (.slice a ks.length c)) (hR : ReadsL encZ N0 w a ks) :
    SeqStopsK Fence.wide n Try.prog 38 #[.pointer (some ⟨B, 0, none⟩)] (fun x : Int => #[encZ x]) (Below N0) (fun ys => ys = ks) (fun _ => True) ks.length w := fun l J Jx W hW _ _ hY h0 =>
  values_each n hn l B N0 a c ks hlen J Jx hY W ((hW.cell (p := ⟨B, 0, none⟩) hBw).trans hB) (hR.on (hW.mono hN0)) h0
theorem info_key : (Try.prog.info? 2).map (fun i => (i.zero, i.size, i.bytes)) = some (some (.int .i64 0), 1, 8) := by kernel_rfl
set_option maxRecDepth 100000 in
set_option maxHeartbeats 2000000 in
/-- What an iterator over a list gives, gathered behind nothing. -/
theorem appendSeq_any (n : Nat) (hn : 3 ≤ n) (B N0 : Nat) (a : Option Addr) (c : Nat) (ks : List Int) (hlen : ks.length ≤ 1000) (w : World) (hBw : B < w.heap.size) (hN0 : N0 ≤ w.heap.size)
    (hB : w.cell? ⟨B, 0, none⟩ = some (.slice a ks.length c)) (hR : ReadsL encZ N0 w a ks) :
    CallsIn Fence.wide n Try.prog 43 #[.slice none 0 0, .func (.func 38) #[] #[.pointer (some ⟨B, 0, none⟩)]] w fun e w' =>
      ∃ v, e = .returned v ∧ w'.ownsRow w.heap.size 2 1 v ks.length (ks.map encZ) ∧ (v = .slice none 0 0 ↔ ks = []) ∧ Below w.heap.size w w' := by
  have h1 : 1 ≤ n := by omega
  obtain ⟨i0, hi, hz0, hz1, hz2⟩ := info_parts info_key
  refine callsIn_of_wp_marks Try.func43 rfl trivial ?_ rfl
  simp only [Try.ntmps43, List.size_toArray, List.length_cons, List.length_nil, Nat.reduceAdd, Nat.reduceSub, Array.replicate_succ, Array.replicate_zero, List.push_toArray, List.append_toArray, List.nil_append, List.cons_append]
  have HB := Lib.hid hB
  have HR := Lib.hid hR
  clear hB hR
  gi_wp2
  have bO := Boxed.new w 22 (.slice none 0 0)
  have hB0 : Below w.heap.size w (w.alloc (.cells #[.slice none 0 0] 22)) := (Below.refl _ w).alloc (Nat.le_refl _) _
  have hst := values_stops (n - 1) (by omega) B N0 a c ks hlen (w.alloc (.cells #[.slice none 0 0] 22)) (by simp; omega) (by simp; omega) ((hB0.cell (p := ⟨B, 0, none⟩) hBw).trans HB.out) (HR.out.on (hB0.mono hN0))
  refine wpIn_rangeFunc_ownG rfl h1 (gf := 38) (lb := #[.pointer (some ⟨B, 0, none⟩)]) rfl trivial (enters_of Try.func38 (by kernel_rfl) rfl)
    hst belowK_t (belowK_b (by simp; omega)) (Below.refl _ _) (fun _ => rfl)
    (fun pre W => (∃ v, Boxed W w.heap.size 22 v ∧ W.ownsRow w.heap.size 2 1 v pre.length (pre.map encZ) ∧ (v = .slice none 0 0 ↔ pre = [])) ∧ Below w.heap.size w W)
    (fun _ _ _ => False)
    (OwnFrom.and (Own.from (holdsRow_own w.heap.size w.heap.size 22 2 1 (fun pre : List Int => pre.length) (fun pre => pre.map encZ) (fun pre v => v = .slice none 0 0 ↔ pre = [])) _) (ownFrom_below (Nat.le_refl _) (by simp)))
    (fun _ _ _ _ _ hs _ _ => hs)
    ⟨⟨_, bO, World.ownsRow_nil _ _ _ _, by simp⟩, hB0⟩
    (fun x => { tmps := #[.slice none 0 0, .func (.func 38) #[] #[.pointer (some ⟨B, 0, none⟩)], .pointer (some ⟨w.heap.size, 0, none⟩), undef, .slice none 0 0, encZ x, .func (.func 38) #[] #[.pointer (some ⟨B, 0, none⟩)], encZ x, undef, undef, undef, undef, undef], defers := [] }) ?assign ?body ?done ?stop
  case assign =>
    intro l x W K hK
    gi_wp2
    exact hK
  case body =>
    rintro l pre x W ⟨⟨v, hv, hrow, hnil⟩, hBl⟩ hlt
    have hc := hv.cell
    unfold encZ
    gi_wp2_with (gi_at_builtin; refine wpListIn_append_own _ rfl _ _ 22 rfl w.heap.size 2 i0 (.int .i64 0) 1 8 Try.underlying22 hi hz0 hz1 hz2 rfl (by decide) _ _ _ rfl (hrow.alloc _) ⟨W.heap.size, 0, none⟩ 1 1 [.int .i64 x] rfl rfl (cell_one_new _ _ _) (by simp [Value.oneCell']) (by unfold maxLen; omega) (by omega) (by have := hBl.size; simp; omega) ?_; intro v' w1 hown' hgrow _; obtain ⟨g', cap', rfl⟩ := ownsRow_succ hown'; obtain ⟨hv1, hv2, hr2, hk2, hb2⟩ := hv.appended (by decide) hrow hBl.size (Nat.le_refl _) hown' hgrow; have hc1 := hv1.cell; have hf1 := hv1.frozen)
    exact ⟨hk2.from _, hb2.mono hN0, ⟨_, hv2, by rw [List.map_append, List.length_append]; exact hr2, by simp⟩, hBl.trans hb2⟩
  case done =>
    rintro D ys W hD rfl ⟨⟨v, hv, hrow, hnil⟩, hBl⟩ hK
    have hc := hv.cell
    gi_wp2
    refine ⟨by simp, .inl ⟨_, _, rfl, run_takeDeferred hK, ?_⟩⟩
    exact ⟨_, results_tmp rfl _ _ _, v, rfl, ownsRow_putObj hrow _ hK rfl, hnil, hBl.trans (belowK_b (w := w) (Nat.le_refl _) W D _ _ (by simp at hD; omega) hK rfl rfl)⟩
  case stop =>
    rintro D c pre W _ _ h _
    exact h.elim
set_option maxHeartbeats 1000000 in
theorem collect_any (n : Nat) (hn : 4 ≤ n) (B N0 : Nat) (a : Option Addr) (c : Nat) (ks : List Int) (hlen : ks.length ≤ 1000) (w : World) (hBw : B < w.heap.size) (hN0 : N0 ≤ w.heap.size)
    (hB : w.cell? ⟨B, 0, none⟩ = some (.slice a ks.length c)) (hR : ReadsL encZ N0 w a ks) :
    CallsIn Fence.wide n Try.prog 36 #[.func (.func 38) #[] #[.pointer (some ⟨B, 0, none⟩)]] w fun e w' =>
      ∃ v, e = .returned v ∧ w'.ownsRow w.heap.size 2 1 v ks.length (ks.map encZ) ∧ (v = .slice none 0 0 ↔ ks = []) ∧ Below w.heap.size w w' := by
  have h1 : 1 ≤ n := by omega
  have HA := Lib.hid (appendSeq_any (n - 1) (by omega) B N0 a c ks hlen w hBw hN0 hB hR)
  have hfK : Fence.wide.fn 43 := trivial
  clear hB hR
  refine callsIn_of_wp Try.func36 rfl trivial ?_ rfl
  simp only [Try.ntmps36, List.size_toArray, List.length_cons, List.length_nil, Nat.reduceAdd, Nat.reduceSub, Array.replicate_succ, Array.replicate_zero, List.push_toArray, List.append_toArray, List.nil_append, List.cons_append]
  gi_wp2_with (gi_at_call 43; refine HA.out.mono ?_; rintro e w' ⟨v, rfl, hrow, hnil, hb⟩)
  go_ret
  exact ⟨v, rfl, hrow, hnil, hb⟩
/-- What Sorted hands back: nil where there is nothing, a row of the call's own else. -/
def RisOut (ks : List Int) (N : Nat) (e : Ending) (w' : World) : Prop :=
  (ks = [] ∧ e = .returned (.slice none 0 0)) ∨
  ∃ g cap, e = .returned (.slice (some ⟨g, 0, none⟩) ks.length cap) ∧ N ≤ g ∧ g < w'.heap.size ∧ ks.length ≤ cap ∧ RowIs g w' ((sortK ks).map encZ) ∧ 0 < ks.length
theorem sort64_any (g cap : Nat) (ks : List Int) (w : World) (hH : Holds (Value.int .i64) w g 0 ks.toArray) (hg : g < w.heap.size) (hlen : ks.length ≤ 1000) :
    Calls Try.prog 37 #[.slice (some ⟨g, 0, none⟩) ks.length cap] w fun e w' => e = .returned (.tuple #[]) ∧ Below g w w' ∧ RowIs g w' ((sortK ks).map encZ) := by
  have h := AnyM.slices_Sort_int Try.laysSort g 0 cap ks w hH hg (by omega)
  refine Calls.mono h ?_
  rintro e w' ⟨rfl, n, os, rfl⟩
  refine ⟨rfl, sortWorld_below (Value.int .i64) w g 0 n (ks.mergeSort fun x y => decide (x ≤ y)).toArray os hg, fun i hi => ?_⟩
  rw [List.length_map, sortK_len] at hi
  have hh := holds_sortWorld (Value.int .i64) w g 0 n ks.toArray (ks.mergeSort fun x y => decide (x ≤ y)).toArray os hg hH (by simp) i (by simpa using hi)
  rw [get_bang (by simpa using hi), Nat.zero_add] at hh
  refine ⟨hh.1.trans ?_, hh.2⟩
  rw [List.getElem_map]
  rfl
theorem sort64_none (p : Option Addr) (cap : Nat) (w : World) :
    Calls Try.prog 37 #[.slice p 0 cap] w fun e w' => e = .returned (.tuple #[]) ∧ w' = w := AnyM.slices_Sort_int_none Try.laysSort p cap w
set_option maxHeartbeats 1000000 in
theorem sorted_any (n : Nat) (hn : 5 ≤ n) (B N0 : Nat) (a : Option Addr) (c : Nat) (ks : List Int) (hlen : ks.length ≤ 1000) (w : World) (hBw : B < w.heap.size) (hN0 : N0 ≤ w.heap.size)
    (hB : w.cell? ⟨B, 0, none⟩ = some (.slice a ks.length c)) (hR : ReadsL encZ N0 w a ks) :
    CallsIn Fence.wide n Try.prog 28 #[.func (.func 38) #[] #[.pointer (some ⟨B, 0, none⟩)]] w fun e w' =>
      RisOut ks w.heap.size e w' ∧ Below w.heap.size w w' := by
  have h1 : 1 ≤ n := by omega
  have HA := Lib.hid (collect_any (n - 1) (by omega) B N0 a c ks hlen w hBw hN0 hB hR)
  have hfK : Fence.wide.fn 36 := trivial
  have hfS : Fence.wide.fn 37 := trivial
  clear hB hR
  refine callsIn_of_wp Try.func28 rfl trivial ?_ rfl
  simp only [Try.ntmps28, List.size_toArray, List.length_cons, List.length_nil, Nat.reduceAdd, Nat.reduceSub, Array.replicate_succ, Array.replicate_zero, List.push_toArray, List.append_toArray, List.nil_append, List.cons_append]
  gi_wp2_with (gi_at_call 36; refine HA.out.mono ?_; rintro e w1 ⟨v, rfl, hrow, hnil, hb⟩)
  rcases hrow.2 with ⟨rfl, hz⟩ | ⟨g, cap, cur, rfl, hg, hgb, r1, r2, r3, r4⟩
  · have hks : ks = [] := List.eq_nil_of_length_eq_zero hz
    have HX := Lib.hid (And.intro hks hb)
    have HS := Lib.hid (callsIn_wide (n := n - 1).2 (sort64_none none 0 w1))
    clear hks hb hrow hnil hz
    gi_wp2_with (gi_at_call 37; refine HS.out.mono ?_; rintro e w' ⟨rfl, rfl⟩)
    go_ret
    exact ⟨Or.inl ⟨HX.out.1, rfl⟩, HX.out.2⟩
  · have hH : Holds (Value.int .i64) w1 g 0 ks.toArray := holds_of_block_i hgb (by rw [Nat.mul_one] at r4; exact r4)
    have hgl : g < w1.heap.size := (Array.getElem?_eq_some_iff.1 hgb).1
    have hpos : 0 < ks.length := by
      refine Nat.pos_of_ne_zero fun h0 => ?_
      have := hnil.2 (List.eq_nil_of_length_eq_zero h0)
      cases this
    have HX := Lib.hid (And.intro hb (And.intro hg (And.intro r1 (And.intro hpos hgl))))
    have HS := Lib.hid (callsIn_wide (n := n - 1).2 (sort64_any g cap ks w1 hH hgl hlen))
    clear hb hrow hnil hgb hH r1 r2 r3 r4 hpos hgl hg
    gi_wp2_with (gi_at_call 37; refine HS.out.mono ?_; rintro e w2 ⟨rfl, hb2, hr2⟩)
    go_ret
    exact ⟨Or.inr ⟨g, cap, rfl, HX.out.2.1, Nat.lt_of_lt_of_le HX.out.2.2.2.2 hb2.size, HX.out.2.2.1, hr2, HX.out.2.2.2.1⟩, HX.out.1.trans (hb2.mono HX.out.2.1)⟩
theorem valuesOf_any (n : Nat) (a : Option Addr) (len c : Nat) (w : World) :
    CallsIn Fence.wide n Try.prog 29 #[.slice a len c] w fun e w' => e = .returned (.func (.func 38) #[] #[.pointer (some ⟨w.heap.size, 0, none⟩)]) ∧ w' = w.alloc (.cells #[.slice a len c] 22) := by
  refine callsIn_of_wp Try.func29 rfl trivial ?_ rfl
  simp only [Try.ntmps29, List.size_toArray, List.length_cons, List.length_nil, Nat.reduceAdd, Nat.reduceSub, Array.replicate_succ, Array.replicate_zero, List.push_toArray, List.append_toArray, List.nil_append, List.cons_append]
  gi_wp2
  go_ret
  exact ⟨rfl, rfl⟩
set_option maxHeartbeats 1000000 in
theorem rising_any (a : Option Addr) (c : Nat) (ks : List Int) (hlen : ks.length ≤ 1000) (w : World) (hR : ReadsL encZ w.heap.size w a ks) :
    Calls Try.prog 21 #[.slice a ks.length c] w fun e w' => RisOut ks w.heap.size e w' ∧ Below w.heap.size w w' := by
  refine (callsIn_wide (n := 9)).1 ?_
  have h1 : 1 ≤ 9 := by omega
  obtain ⟨w0, hw0⟩ : ∃ w0, w.alloc (.cells #[.slice a ks.length c] 22) = w0 := ⟨_, rfl⟩
  have hc0 : w0.cell? ⟨w.heap.size, 0, none⟩ = some (.slice a ks.length c) := by rw [← hw0]; simp
  have hs0 : w0.heap.size = w.heap.size + 1 := by rw [← hw0]; simp
  have hb0 : Below w.heap.size w w0 := by rw [← hw0]; exact (Below.refl _ _).alloc (Nat.le_refl _) _
  have HV := Lib.hid (valuesOf_any 8 a ks.length c w)
  rw [hw0] at HV
  have HS := Lib.hid (sorted_any 8 (by omega) w.heap.size w.heap.size a c ks hlen w0 (by omega) (by omega) hc0 (hR.on hb0))
  have HB := Lib.hid (And.intro hb0 hs0)
  have hfV : Fence.wide.fn 29 := trivial
  have hfS : Fence.wide.fn 28 := trivial
  clear hR hw0 hc0 hs0 hb0
  refine callsIn_of_wp Try.func21 rfl trivial ?_ rfl
  simp only [Try.ntmps21, List.size_toArray, List.length_cons, List.length_nil, Nat.reduceAdd, Nat.reduceSub, Array.replicate_succ, Array.replicate_zero, List.push_toArray, List.append_toArray, List.nil_append, List.cons_append]
  gi_wp2_with (first
    | (gi_at_call 29; refine HV.out.mono ?_; rintro e w1 ⟨rfl, rfl⟩)
    | (gi_at_call 28; refine HS.out.mono ?_; rintro e w2 ⟨ho, hb2⟩; rcases ho with ⟨hks, rfl⟩ | ⟨g, cap, rfl, hg⟩))
  · go_ret
    exact ⟨Or.inl ⟨hks, rfl⟩, HB.out.1.trans (hb2.mono (by have := HB.out.2; omega))⟩
  · go_ret
    exact ⟨Or.inr ⟨g, cap, rfl, by have := HB.out.2; omega, hg.2⟩, HB.out.1.trans (hb2.mono (by have := HB.out.2; omega))⟩
end Go.Proofs.Ytemcbhbobfjnkaa
