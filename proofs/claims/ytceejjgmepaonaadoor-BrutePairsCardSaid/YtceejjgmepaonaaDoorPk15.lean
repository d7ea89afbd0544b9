/- The vertices of a group, one by one, rising: each's contract, for every body that goes on; and their list. -/
import Derived.Test.YtceejjgmepaonaaDoorPk13
import Derived.Test.YtceejjgmepaonaaDoorPk14
import Derived.Test.YtceejjgmepaonaaDoorPk10
import Derived.Test.YtceejjgmepaonaaDoorPk1
import Derived.Maps.AppendAt
namespace Go.Proofs.YtceejjgmepaonaaDoor.Bg
open Go.RowKit Go.ChangeShapes BgPure
attribute [local go_sem] Oper.semAt_some
def encN (v : Nat) : Value := .int .i64 (v : Int)
set_option maxRecDepth 100000 in
set_option maxHeartbeats 1000000 in
theorem each_in (m : Nat) (hm : 1 ≤ m) (l g : Nat) (hg : g < 4294967296) (J : List Nat → World → Prop)
    (hJ : ∀ ys W, J ys W → Tab W)
    (hY : ∀ (pre : List Nat) (x : Nat) (rest : List Nat) (W : World), grpN g = pre ++ x :: rest → J pre W → YieldAt Fence.wide (m - 1) Tryd.prog l #[.int .i64 (x : Int)] W fun e V => e = .returned (.bool true) ∧ J (pre ++ [x]) V)
    (W : World) (h0 : J [] W) :
    CallsIn Fence.wide m Tryd.prog 39 #[.int .u32 (g : Int), .func (.yield l) #[] #[]] W fun e V => (∃ v, e = .returned v) ∧ J (grpN g) V := by
  have HJ := Lib.hid hJ
  have HY := Lib.hid hY
  clear hJ hY
  refine callsIn_of_wp Tryd.func39 rfl trivial ?_ rfl
  simp only [Tryd.ntmps39, List.size_toArray, List.length_cons, List.length_nil, Nat.reduceAdd, Nat.reduceSub, Array.replicate_succ, Array.replicate_zero, List.push_toArray, List.append_toArray, List.nil_append, List.cons_append]
  gi_wp2
  gi_loopw [0] (fun v wr => ∃ (y : Nat) (pre : List Nat), v = .int .u32 y ∧ Hid (y < 4294967296) ∧ Hid (J pre wr) ∧ Hid (pre ++ grpN y = grpN g)) (fun v _ => (intOf v).toNat)
  case atStart => exact ⟨g, [], rfl, Lib.hid hg, Lib.hid h0, Lib.hid rfl⟩
  case round =>
    obtain ⟨y, pre, rfl, HB, HS, HP⟩ := hrel
    clear h0
    by_cases hy0 : y = 0
    · have t0 : ((y : Int) != 0) = false := by simpa using hy0
      gi_wp2
      refine ⟨trivial, ?_⟩
      gi_wp2
      refine ⟨fun f hf => (by cases hf), ?_⟩
      gi_wp2
      go_end0
      have := HP.out
      rw [hy0, grp_zero, List.append_nil] at this
      subst this
      exact ⟨⟨_, rfl⟩, HS.out⟩
    · have t0 : ((y : Int) != 0) = true := by simpa using hy0
      have hst := grp_step hy0 HB.out
      have hp := HP.out
      rw [hst] at hp
      obtain ⟨fn, tmps, assign, body, hyd, hR⟩ := HY.out pre (lowG y) _ _ hp.symm HS.out
      have hyb := HB.out
      have ha : Hid (bits .and .u32 (y : Int) ((y : Int) - 1) = ((y &&& (y - 1) : Nat) : Int)) := Lib.hid (by
        have := u32_and_nat y (y - 1) hyb (by omega)
        rwa [show ((y - 1 : Nat) : Int) = (y : Int) - 1 by omega] at this)
      have HN : Hid ((pre ++ [lowG y]) ++ grpN (y &&& (y - 1)) = grpN g) := Lib.hid (by rw [← hp, List.append_assoc]; rfl)
      have HL := Lib.hid (low_less y hy0)
      have HT := Lib.hid (HJ.out _ _ HS.out)
      clear hst hp
      gi_wp2_with (first | (refine ⟨trivial, ?_⟩; gi_at_call 59; refine (callsIn_wide.2 (tz_any y hyb _ HT.out)).mono ?_; rintro e w' ⟨rfl, rfl⟩))
      refine hR.mono ?_
      rintro e W3 ⟨rfl, hJ3⟩
      have HS3 := Lib.hid hJ3
      clear hJ3 hR hyd
      gi_wp2
      go_roundw
      case rel => exact ⟨y &&& (y - 1), pre ++ [lowG y], by rw [ha.out], Lib.hid (Nat.lt_trans HL.out hyb), HS3, HN⟩
      case measure => have := HL.out; rw [ha.out]; (simp [intOf] <;> omega)
theorem make_ints (c : Nat) (hc : c ≤ 1000000) (w : World) :
    (Instr.makeSlice 29 (.int .i64 0) (.int .i64 (c : Int))).run Tryd.prog w = .ok (.slice (some ⟨w.heap.size, 0, none⟩) 0 c) (w.alloc (.cells (madeCells #[.int .i64 0] c) 3)) := by
  obtain ⟨i, h1, h2, h3, h4⟩ := info_of (P := Tryd.prog) (T := 3) (z := .int .i64 0) (a := 1) (b := 8) (by kernel_rfl)
  rw [run_make w 29 3 i _ Tryd.underlying29 h1 h2 .i64 .i64 0 c (by omega) (by omega) (by rw [h4]; omega) (by omega)]
  rw [h3]
  simp [Value.cells]
/-- A list of a group's vertices: in a block of the call's own. -/
def ListG (g : Nat) (w : World) (e : Ending) (w' : World) : Prop := ∃ q cap, e = .returned (.slice q (grpL g).length cap) ∧ ReadsL encZ w'.heap.size w' q (grpL g) ∧ (∀ z, q = some z → w.heap.size ≤ z.block) ∧ Below w.heap.size w w'
set_option maxRecDepth 100000 in
set_option maxHeartbeats 2000000 in
theorem list_any (g : Nat) (hg : g < 4294967296) (w : World) (hT : Tab w) :
    Calls Tryd.prog 29 #[.int .u32 (g : Int)] w fun e w' => ListG g w e w' := by
  have HT := Lib.hid hT
  clear hT
  have HO := Lib.hid (ones_any g hg w)
  obtain ⟨i0, hi, hz0, hz1, hz2⟩ := info_parts (show (Tryd.prog.info? 3).map (fun i => (i.zero, i.size, i.bytes)) = some (some (.int .i64 0), 1, 8) by kernel_rfl)
  have HG := Lib.hid hg
  clear hg
  refine (callsIn_wide (n := 3)).1 ?_
  have h1 : 1 ≤ 3 := by decide
  have hmf : ∀ (w : World) (x : Value), (Instr.makeFunc (.func 39) #[x] #[]).run Tryd.prog w = .ok (.func (.func 39) #[x] #[]) w := fun w x => rfl
  refine callsIn_of_wp_marks Tryd.func29 rfl trivial ?_ rfl
  simp only [Tryd.ntmps29, List.size_toArray, List.length_cons, List.length_nil, Nat.reduceAdd, Nat.reduceSub, Array.replicate_succ, Array.replicate_zero, List.push_toArray, List.append_toArray, List.nil_append, List.cons_append]
  gi_wp2_with fail
  refine ⟨trivial, ?_⟩
  gi_at_call 52
  refine (callsIn_wide.2 HO.out).mono ?_
  rintro e w0 ⟨c, q0, hc, rfl, rfl⟩
  have HB := Lib.hid (below_drewN (Below.refl w.heap.size w) q0)
  generalize w.drewN q0 = W at *
  have hmk := make_ints c (by omega) W
  gi_wp2_with fail
  have hB0 : Below w.heap.size w ((W.alloc (.cells (madeCells #[.int .i64 0] c) 3)).alloc (.cells #[.slice (some ⟨W.heap.size, 0, none⟩) 0 c] 29)) := (HB.out.alloc HB.out.size _).alloc (by have := HB.out.size; simp; omega) _
  have hBox := Boxed.new (W.alloc (.cells (madeCells #[.int .i64 0] c) 3)) 29 (.slice (some ⟨W.heap.size, 0, none⟩) 0 c)
  rw [World.size_alloc] at hBox
  have hRow0 : (W.alloc (.cells (madeCells #[.int .i64 0] c) 3)).ownsRow W.heap.size 3 1 (.slice (some ⟨W.heap.size, 0, none⟩) 0 c) 0 [] :=
    World.ownsRow_made W _ _ (Nat.le_refl _) (by unfold maxLen; omega) (by rw [size_madeCells]; simp)
  have hRow := hRow0.alloc (.cells #[.slice (some ⟨W.heap.size, 0, none⟩) 0 c] 29)
  clear hmk hRow0
  have hsz : ((W.alloc (.cells (madeCells #[.int .i64 0] c) 3)).alloc (.cells #[.slice (some ⟨W.heap.size, 0, none⟩) 0 c] 29)).heap.size = W.heap.size + 2 := by simp
  have hWW := HB.out.size
  have hlen := grpN_len g
  generalize ((W.alloc (.cells (madeCells #[.int .i64 0] c) 3)).alloc (.cells #[.slice (some ⟨W.heap.size, 0, none⟩) 0 c] 29)) = W0 at *
  generalize W.heap.size = B at *
  refine range_bound h1 (gf := 39) (recv := #[.int .u32 (g : Int)]) rfl (enters_of Tryd.func39 (by kernel_rfl) rfl) encN (grpN g)
    (fun pre W => (∃ v, Boxed W (B + 1) 29 v ∧ W.ownsRow B 3 1 v pre.length (pre.map encN) ∧ True) ∧ Below w.heap.size w W)
    (OwnFrom.and (Own.from (holdsRow_own B (B + 1) 29 3 1 (fun pre : List Nat => pre.length) (fun pre => pre.map encN) (fun _ _ => True)) _) (ownFrom_below (Nat.le_refl _) (by rw [hsz]; omega)))
    ⟨⟨_, hBox, hRow, trivial⟩, hB0⟩ ?hit
    (fun x => { tmps := #[.int .u32 (g : Int), undef, .slice none 0 0, .pointer (some ⟨B + 1, 0, none⟩), .int .i64 (x : Int), .int .u32 (g : Int), .int .i64 (c : Int), .slice (some ⟨B, 0, none⟩) 0 c, .int .u32 (g : Int), .func (.func 39) #[.int .u32 (g : Int)] #[], .int .i64 (x : Int), undef, undef, undef, undef, undef], defers := [] }) ?assign ?body ?done
  case hit =>
    intro l J W hJ hY h0
    exact each_in 2 (by decide) l g HG.out J (fun ys V hj => tab_keep HT.out (hJ _ _ hj).2) hY W h0
  case assign =>
    intro l x W K hK
    gi_wp2
    exact hK
  case body =>
    rintro l pre x rest W hx ⟨⟨v, hv, hrow, -⟩, hB⟩
    have hc := hv.cell
    have hpl : pre.length + 1 ≤ 4096 := by rw [hx] at hlen; simp at hlen; omega
    clear hBox hRow hB0 hx
    gi_wp2_with (gi_at_builtin; refine wpListIn_append_own _ rfl _ _ 29 rfl B 3 i0 (.int .i64 0) 1 8 Tryd.underlying29 hi hz0 hz1 hz2 rfl (by decide) _ _ _ rfl (hrow.alloc _) ⟨W.heap.size, 0, none⟩ 1 1 [.int .i64 (x : Int)] rfl rfl (cell_one_new _ _ _) (by simp [Value.oneCell']) (by unfold maxLen; omega) (by omega) (by have := hB.size; have := hv.lt; simp; omega) ?_; intro v' w1 hown' hgrow _; obtain ⟨g', cap', rfl⟩ := ownsRow_succ hown'; obtain ⟨hv1, hv2, hr2, hk2, hb2⟩ := hv.appended (by decide) hrow (by have := hv.lt; omega) (Nat.le_succ _) hown' hgrow; have hc1 := hv1.cell; have hf1 := hv1.frozen)
    exact ⟨hk2.from _, ⟨_, hv2, by simpa [encN] using hr2, trivial⟩, hB.trans (hb2.mono hWW)⟩
  case done =>
    rintro D W hD ⟨⟨v, hv, hrow, -⟩, hB⟩ hK
    have hc := hv.cell
    gi_wp2
    refine ⟨by simp, .inl ⟨_, _, rfl, run_takeDeferred hK, ?_⟩⟩
    have hrow2 := ownsRow_putObj hrow (.deferred none) hK rfl
    have hlt2 := hrow2.lt
    obtain ⟨a, cap, rfl, hrd, -⟩ := owns_readsL rfl hrow2
    have hlen2 : (grpN g).length = (grpL g).length := by unfold grpL; rw [List.length_map]
    rw [hlen2]
    exact ⟨_, results_tmp rfl _ _ _, a, cap, rfl, ReadsL.map (enc := encZ) (f := fun v : Nat => (v : Int)) |>.1 hrd, fun z hz => Nat.le_trans hWW (hlt2 z.block (by rw [hz]; rfl)).1, hB.trans (belowK_b (w := w) (Nat.le_refl _) W D _ _ (by rw [hsz] at hD; omega) hK rfl rfl)⟩
end Go.Proofs.YtceejjgmepaonaaDoor.Bg
