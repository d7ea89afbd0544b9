/- Texts that the laws of this seat stand on, part 16. -/
import Derived.Test.YtceejjgmepaonaaGreatDoorPk6
import Derived.RangeFuncNested
import Derived.RangeFuncBound
import Derived.RangeFuncCalls
import Derived.RangeFuncLeaves
import Derived.RangeFuncBox
import Derived.Shelf.Abstract
import Derived.Shelf.RegionOpen
import Derived.OwnWalkIn
import Derived.TacticsInMore
import Derived.LoopNIn
import Derived.LoopIn
import Derived.Test.YtceejjgmepaonaaGreatDoorPk9
import Derived.Maps.AppendAt
/- A range over a method value whose body always goes on: what the caller owes, where the iterator's contract hands over a known list. No function of the program is named. -/
namespace Go.Proofs.YtceejjgmepaonaaGreatDoor
open Go.RowKit
/-- A round's body falls off its end: what it keeps, and what holds then. -/
def staysOn {α : Type} (B : Nat) (I : List α → World → Prop) (ys : List α) (W : World) : Exit → Act → World → Prop
  | .normal, _, W' => KeepsFrom B W W' ∧ I ys W'
  | _, _, _ => False
/-- The range: the method value has its receiver bound ahead of yield; the iterator hands over just xs; the caller's word I speaks of its own cells. -/
theorem range_bound {α : Type} {P : Program} {n : Nat} {g : Operand} {p : Tmp} {assign body : Code} {Q : Exit → Act → World → Prop} {a : Act} {w : World} (h1 : 1 ≤ n)
    {gf : Nat} {recv : Array Value} (hg : a.eval g = .func (.func gf) recv #[]) (eg : ∀ args w, (callFunc gf args).run P w = .ok (.enter gf args) w)
    (enc : α → Value) (xs : List α) (I : List α → World → Prop) (hI : OwnFrom w.heap.size I) (h0 : I [] w)
    (hit : ∀ (l : Nat) (J : List α → World → Prop) (W : World), (∀ ys W', J ys W' → I ys W') →
      (∀ pre x rest W', xs = pre ++ x :: rest → J pre W' → YieldAt Fence.wide (n - 1 - 1) P l #[enc x] W' fun e V => e = .returned (.bool true) ∧ J (pre ++ [x]) V) → J [] W →
      CallsIn Fence.wide (n - 1) P gf (recv ++ #[.func (.yield l) #[] #[]]) W fun e V => (∃ v, e = .returned v) ∧ J xs V)
    (a₁ : α → Act)
    (hassign : ∀ (l : Nat) (x : α) (W : World) (K : Act → World → Prop), K (a₁ x) W →
      assign.wpIn (Fence.wide.inRound l) (n - 1 - 1) P (Exit.then K (fun _ _ _ => False)) { tmps := a.tmps.setIfInBounds p (enc x), defers := [] } W)
    (hbody : ∀ (l : Nat) (pre : List α) (x : α) (rest : List α) (W : World), xs = pre ++ x :: rest → I pre W → body.wpIn (Fence.wide.inRound l) (n - 1 - 1) P (staysOn w.heap.size I (pre ++ [x]) W) (a₁ x) W)
    (hdone : ∀ (D : Nat) (W : World), w.heap.size ≤ D → I xs W → W.heap[D]? = some (.deferred (some [])) → Q .normal { a with defers := { target := .collected D, args := #[] } :: a.defers } W) :
    (Code.rangeFunc g #[p] assign body).wpIn Fence.wide n P Q a w := by
  refine wpIn_rangeFunc ?_
  intro fn hfn
  let L : LoopState → Loop := fun st => { state := st, pending := none, fn := fn, tmps := a.tmps, params := #[p], assign := assign, body := body, defers := w.heap.size }
  let D := w.heap.size
  let l := w.heap.size + 1
  obtain ⟨W1, hW1⟩ : ∃ W1, W1 = (w.alloc (.deferred (some []))).alloc (.loop (L .ready)) := ⟨_, rfl⟩
  have loopAt : W1.heap[l]? = some (.loop (L .ready)) := by
    have := World.alloc_heap_new (w.alloc (.deferred (some []))) (.loop (L .ready))
    rw [World.size_alloc] at this
    rw [hW1]; exact this
  have markAt : W1.heap[D]? = some (.deferred (some [])) := by
    rw [hW1]; exact (Below.heap_alloc _ _ _ (by simp [D])).trans (World.alloc_heap_new w _)
  let J : List α → World → Prop := fun ys W => I ys W ∧ W.heap[l]? = some (.loop (L .ready)) ∧ W.heap[D]? = some (.deferred (some []))
  refine ⟨l, [{ target := .collected D, args := #[] }], W1, { target := .fn (.func gf) #[], args := recv ++ #[.func (.yield l) #[] #[]] }, W1, gf, recv ++ #[.func (.yield l) #[] #[]], W1, ?_, ?_, ?_, ?_, fun _ => h1, ?_⟩
  · rw [hW1]; exact run_enterLoop_outer _ _ _ _ _
  · simp only [resolve, hg]
    simp [go_sem]
  · intro f' hf'; trivial
  · simp [invoke, go_sem, eg]
  · refine (hit l J W1 (fun ys W' h => h.1) ?_ ⟨by rw [hW1]; exact hI.alloc _ (hI.alloc _ h0), loopAt, markAt⟩).mono ?_
    · rintro pre x rest W hx ⟨hi, hl, hd⟩
      have hlt : l < W.heap.size := (Array.getElem?_eq_some_iff.1 hl).1
      have hy : (Instr.yield l #[enc x]).run P W = .ok (.round l fn (a.tmps.setIfInBounds p (enc x)) assign body) W := by
        have h := run_yield (P := P) (args := #[enc x]) hl rfl
        simpa [L] using h
      refine ⟨fn, _, assign, body, hy, roundIn_of_wpIn hfn ?_⟩
      refine hassign l x W _ ?_
      refine ⟨_, run_beginRound hl rfl, ?_⟩
      have busy : (W.putObj l (.loop (L .busy))).heap[l]? = some (.loop (L .busy)) := World.putObj_heap_same hlt
      have mark2 : (W.putObj l (.loop (L .busy))).heap[D]? = some (.deferred (some [])) := (World.putObj_heap_other (by simp [D, l])).trans hd
      refine wpIn_mono (hbody l pre x rest (W.putObj l (.loop (L .busy))) hx (hI.putObj _ hi (by simp [l]) hl rfl)) ?_
      intro e act W3 hp
      cases e with
      | normal =>
        obtain ⟨hk, hi3⟩ := hp
        have hl3 := hk.same l _ (by simp [l]) busy rfl
        have hd3 := hk.same D _ (by simp [D]) mark2 rfl
        exact ⟨_, _, run_endRound (P := P) none hl3, rfl, hI.putObj _ hi3 (by simp [l]) hl3 rfl, World.putObj_heap_same (Array.getElem?_eq_some_iff.1 hl3).1, (World.putObj_heap_other (by simp [D, l])).trans hd3⟩
      | ret => exact hp.elim
      | exit id => exact hp.elim
      | goto t => exact hp.elim
      | panic c => exact hp.elim
      | outgrown => exact hp.elim
    · rintro e W2 ⟨⟨v, rfl⟩, hi, hl, hd⟩
      exact ⟨none, _, run_endLoop (P := P) hl (by simp [L]), hdone D _ (Nat.le_refl _) (hI.putObj _ hi (by simp [l]) hl rfl) ((World.putObj_heap_other (by simp [D, l])).trans hd)⟩
end Go.Proofs.YtceejjgmepaonaaGreatDoor
/- The vertices of a group, one by one, rising: each's contract, for every body that goes on; and their list. -/
namespace Go.Proofs.YtceejjgmepaonaaGreatDoor.Bg
open Go.RowKit Go.ChangeShapes BgPure
attribute [local go_sem] Oper.semAt_some
def encN (v : Nat) : Value := .int .i64 (v : Int)
set_option maxRecDepth 100000 in
set_option maxHeartbeats 1000000 in
theorem each_in (m : Nat) (hm : 1 ≤ m) (l g : Nat) (hg : g < 4294967296) (J : List Nat → World → Prop)
    (hJ : ∀ ys W, J ys W → Tab W)
    (hY : ∀ (pre : List Nat) (x : Nat) (rest : List Nat) (W : World), grpN g = pre ++ x :: rest → J pre W → YieldAt Fence.wide (m - 1) Tryz.prog l #[.int .i64 (x : Int)] W fun e V => e = .returned (.bool true) ∧ J (pre ++ [x]) V)
    (W : World) (h0 : J [] W) :
    CallsIn Fence.wide m Tryz.prog 46 #[.int .u32 (g : Int), .func (.yield l) #[] #[]] W fun e V => (∃ v, e = .returned v) ∧ J (grpN g) V := by
  have HJ := Lib.hid hJ
  have HY := Lib.hid hY
  clear hJ hY
  refine callsIn_of_wp Tryz.func46 rfl trivial ?_ rfl
  simp only [Tryz.ntmps46, List.size_toArray, List.length_cons, List.length_nil, Nat.reduceAdd, Nat.reduceSub, Array.replicate_succ, Array.replicate_zero, List.push_toArray, List.append_toArray, List.nil_append, List.cons_append]
  gi_wp2
  gi_loopw [0] (fun v wr => ∃ (y : Nat) (pre : List Nat), v = .int .u32 y ∧ Hid (y < 4294967296) ∧ Hid (J pre wr) ∧ Hid (pre ++ grpN y = grpN g)) (fun v _ => (intOf v).toNat)
  case atStart => exact ⟨g, [], rfl, Lib.hid hg, Lib.hid h0, Lib.hid rfl⟩
  case round =>
    obtain ⟨y, pre, rfl, HB, HS, HP⟩ := hrel
    clear h0
    by_cases hy0 : y = 0
    · have t0 : ((y : Int) != 0) = false := by simpa using hy0
      gi_wp2
      refine ⟨trivial, ?_⟩
      gi_wp2
      refine ⟨fun f hf => (by cases hf), ?_⟩
      gi_wp2
      go_end0
      have := HP.out
      rw [hy0, grp_zero, List.append_nil] at this
      subst this
      exact ⟨⟨_, rfl⟩, HS.out⟩
    · have t0 : ((y : Int) != 0) = true := by simpa using hy0
      have hst := grp_step hy0 HB.out
      have hp := HP.out
      rw [hst] at hp
      obtain ⟨fn, tmps, assign, body, hyd, hR⟩ := HY.out pre (lowG y) _ _ hp.symm HS.out
      have hyb := HB.out
      have ha : Hid (bits .and .u32 (y : Int) ((y : Int) - 1) = ((y &&& (y - 1) : Nat) : Int)) := Lib.hid (by
        have := u32_and_nat y (y - 1) hyb (by omega)
        rwa [show ((y - 1 : Nat) : Int) = (y : Int) - 1 by omega] at this)
      have HN : Hid ((pre ++ [lowG y]) ++ grpN (y &&& (y - 1)) = grpN g) := Lib.hid (by rw [← hp, List.append_assoc]; rfl)
      have HL := Lib.hid (low_less y hy0)
      have HT := Lib.hid (HJ.out _ _ HS.out)
      clear hst hp
      gi_wp2_with (first | (refine ⟨trivial, ?_⟩; gi_at_call 52; refine (callsIn_wide.2 (tz_any y hyb _ HT.out)).mono ?_; rintro e w' ⟨rfl, rfl⟩))
      refine hR.mono ?_
      rintro e W3 ⟨rfl, hJ3⟩
      have HS3 := Lib.hid hJ3
      clear hJ3 hR hyd
      gi_wp2
      go_roundw
      case rel => exact ⟨y &&& (y - 1), pre ++ [lowG y], by rw [ha.out], Lib.hid (Nat.lt_trans HL.out hyb), HS3, HN⟩
      case measure => have := HL.out; rw [ha.out]; (simp [intOf] <;> omega)
theorem make_ints (c : Nat) (hc : c ≤ 1000000) (w : World) :
    (Instr.makeSlice 28 (.int .i64 0) (.int .i64 (c : Int))).run Tryz.prog w = .ok (.slice (some ⟨w.heap.size, 0, none⟩) 0 c) (w.alloc (.cells (madeCells #[.int .i64 0] c) 3)) := by
  obtain ⟨i, h1, h2, h3, h4⟩ := info_of (P := Tryz.prog) (T := 3) (z := .int .i64 0) (a := 1) (b := 8) (by kernel_rfl)
  rw [run_make w 28 3 i _ Tryz.underlying28 h1 h2 .i64 .i64 0 c (by omega) (by omega) (by rw [h4]; omega) (by omega)]
  rw [h3]
  simp [Value.cells]
/-- A list of a group's vertices: in a block of the call's own. -/
def ListG (g : Nat) (w : World) (e : Ending) (w' : World) : Prop := ∃ q cap, e = .returned (.slice q (grpL g).length cap) ∧ ReadsL encZ w'.heap.size w' q (grpL g) ∧ (∀ z, q = some z → w.heap.size ≤ z.block) ∧ Below w.heap.size w w'
set_option maxRecDepth 100000 in
set_option maxHeartbeats 2000000 in
theorem list_any (g : Nat) (hg : g < 4294967296) (w : World) (hT : Tab w) :
    Calls Tryz.prog 24 #[.int .u32 (g : Int)] w fun e w' => ListG g w e w' := by
  have HT := Lib.hid hT
  clear hT
  have HO := Lib.hid (ones_any g hg w)
  obtain ⟨i0, hi, hz0, hz1, hz2⟩ := info_parts (show (Tryz.prog.info? 3).map (fun i => (i.zero, i.size, i.bytes)) = some (some (.int .i64 0), 1, 8) by kernel_rfl)
  have HG := Lib.hid hg
  clear hg
  refine (callsIn_wide (n := 3)).1 ?_
  have h1 : 1 ≤ 3 := by decide
  have hmf : ∀ (w : World) (x : Value), (Instr.makeFunc (.func 46) #[x] #[]).run Tryz.prog w = .ok (.func (.func 46) #[x] #[]) w := fun w x => rfl
  refine callsIn_of_wp_marks Tryz.func24 rfl trivial ?_ rfl
  simp only [Tryz.ntmps24, List.size_toArray, List.length_cons, List.length_nil, Nat.reduceAdd, Nat.reduceSub, Array.replicate_succ, Array.replicate_zero, List.push_toArray, List.append_toArray, List.nil_append, List.cons_append]
  gi_wp2_with fail
  refine ⟨trivial, ?_⟩
  gi_at_call 45
  refine (callsIn_wide.2 HO.out).mono ?_
  rintro e w0 ⟨c, q0, hc, rfl, rfl⟩
  have HB := Lib.hid (below_drewN (Below.refl w.heap.size w) q0)
  generalize w.drewN q0 = W at *
  have hmk := make_ints c (by omega) W
  gi_wp2_with fail
  have hB0 : Below w.heap.size w ((W.alloc (.cells (madeCells #[.int .i64 0] c) 3)).alloc (.cells #[.slice (some ⟨W.heap.size, 0, none⟩) 0 c] 28)) := (HB.out.alloc HB.out.size _).alloc (by have := HB.out.size; simp; omega) _
  have hBox := Boxed.new (W.alloc (.cells (madeCells #[.int .i64 0] c) 3)) 28 (.slice (some ⟨W.heap.size, 0, none⟩) 0 c)
  rw [World.size_alloc] at hBox
  have hRow0 : (W.alloc (.cells (madeCells #[.int .i64 0] c) 3)).ownsRow W.heap.size 3 1 (.slice (some ⟨W.heap.size, 0, none⟩) 0 c) 0 [] :=
    World.ownsRow_made W _ _ (Nat.le_refl _) (by unfold maxLen; omega) (by rw [size_madeCells]; simp)
  have hRow := hRow0.alloc (.cells #[.slice (some ⟨W.heap.size, 0, none⟩) 0 c] 28)
  clear hmk hRow0
  have hsz : ((W.alloc (.cells (madeCells #[.int .i64 0] c) 3)).alloc (.cells #[.slice (some ⟨W.heap.size, 0, none⟩) 0 c] 28)).heap.size = W.heap.size + 2 := by simp
  have hWW := HB.out.size
  have hlen := grpN_len g
  generalize ((W.alloc (.cells (madeCells #[.int .i64 0] c) 3)).alloc (.cells #[.slice (some ⟨W.heap.size, 0, none⟩) 0 c] 28)) = W0 at *
  generalize W.heap.size = B at *
  refine range_bound h1 (gf := 46) (recv := #[.int .u32 (g : Int)]) rfl (enters_of Tryz.func46 (by kernel_rfl) rfl) encN (grpN g)
    (fun pre W => (∃ v, Boxed W (B + 1) 28 v ∧ W.ownsRow B 3 1 v pre.length (pre.map encN) ∧ True) ∧ Below w.heap.size w W)
    (OwnFrom.and (Own.from (holdsRow_own B (B + 1) 28 3 1 (fun pre : List Nat => pre.length) (fun pre => pre.map encN) (fun _ _ => True)) _) (ownFrom_below (Nat.le_refl _) (by rw [hsz]; omega)))
    ⟨⟨_, hBox, hRow, trivial⟩, hB0⟩ ?hit
    (fun x => { tmps := #[.int .u32 (g : Int), undef, .slice none 0 0, .pointer (some ⟨B + 1, 0, none⟩), .int .i64 (x : Int), .int .u32 (g : Int), .int .i64 (c : Int), .slice (some ⟨B, 0, none⟩) 0 c, .int .u32 (g : Int), .func (.func 46) #[.int .u32 (g : Int)] #[], .int .i64 (x : Int), undef, undef, undef, undef, undef], defers := [] }) ?assign ?body ?done
  case hit =>
    intro l J W hJ hY h0
    exact each_in 2 (by decide) l g HG.out J (fun ys V hj => tab_keep HT.out (hJ _ _ hj).2) hY W h0
  case assign =>
    intro l x W K hK
    gi_wp2
    exact hK
  case body =>
    rintro l pre x rest W hx ⟨⟨v, hv, hrow, -⟩, hB⟩
    have hc := hv.cell
    have hpl : pre.length + 1 ≤ 4096 := by rw [hx] at hlen; simp at hlen; omega
    clear hBox hRow hB0 hx
    gi_wp2_with (gi_at_builtin; refine wpListIn_append_own _ rfl _ _ 28 rfl B 3 i0 (.int .i64 0) 1 8 Tryz.underlying28 hi hz0 hz1 hz2 rfl (by decide) _ _ _ rfl (hrow.alloc _) ⟨W.heap.size, 0, none⟩ 1 1 [.int .i64 (x : Int)] rfl rfl (cell_one_new _ _ _) (by simp [Value.oneCell']) (by unfold maxLen; omega) (by omega) (by have := hB.size; have := hv.lt; simp; omega) ?_; intro v' w1 hown' hgrow _; obtain ⟨g', cap', rfl⟩ := ownsRow_succ hown'; obtain ⟨hv1, hv2, hr2, hk2, hb2⟩ := hv.appended (by decide) hrow (by have := hv.lt; omega) (Nat.le_succ _) hown' hgrow; have hc1 := hv1.cell; have hf1 := hv1.frozen)
    exact ⟨hk2.from _, ⟨_, hv2, by simpa [encN] using hr2, trivial⟩, hB.trans (hb2.mono hWW)⟩
  case done =>
    rintro D W hD ⟨⟨v, hv, hrow, -⟩, hB⟩ hK
    have hc := hv.cell
    gi_wp2
    refine ⟨by simp, .inl ⟨_, _, rfl, run_takeDeferred hK, ?_⟩⟩
    have hrow2 := ownsRow_putObj hrow (.deferred none) hK rfl
    have hlt2 := hrow2.lt
    obtain ⟨a, cap, rfl, hrd, -⟩ := owns_readsL rfl hrow2
    have hlen2 : (grpN g).length = (grpL g).length := by unfold grpL; rw [List.length_map]
    rw [hlen2]
    exact ⟨_, results_tmp rfl _ _ _, a, cap, rfl, ReadsL.map (enc := encZ) (f := fun v : Nat => (v : Int)) |>.1 hrd, fun z hz => Nat.le_trans hWW (hlt2 z.block (by rw [hz]; rfl)).1, hB.trans (belowK_b (w := w) (Nat.le_refl _) W D _ _ (by rw [hsz] at hD; omega) hK rfl rfl)⟩
end Go.Proofs.YtceejjgmepaonaaGreatDoor.Bg
