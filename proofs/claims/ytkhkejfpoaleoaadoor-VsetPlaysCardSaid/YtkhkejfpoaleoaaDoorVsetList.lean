/- List tells the vertices of a set, rising. -/
import Derived.Test.YtkhkejfpoaleoaaDoorVsetEach
import Derived.Maps.AppendAt
namespace Go.Proofs.YtkhkejfpoaleoaaDoor
open Go.RowKit Go.ChangeShapes VsetPure Go.Shelf
attribute [local go_sem] Oper.semAt_some
def encN (v : Nat) : Value := .int .i64 (v : Int)
theorem make_ints (c : Nat) (hc : c ≤ 1000000) (w : World) :
    (Instr.makeSlice 39 (.int .i64 0) (.int .i64 (c : Int))).run Tryd.prog w = .ok (.slice (some ⟨w.heap.size, 0, none⟩) 0 c) (w.alloc (.cells (madeCells #[.int .i64 0] c) 3)) := by
  obtain ⟨i, h1, h2, h3, h4⟩ := info_of (P := Tryd.prog) (T := 3) (z := .int .i64 0) (a := 1) (b := 8) (by kernel_rfl)
  rw [run_make w 39 3 i _ Tryd.underlying39 h1 h2 .i64 .i64 0 c (by omega) (by omega) (by rw [h4]; omega) (by omega)]
  rw [h3]
  simp [Value.cells]
theorem tab_on {g : Nat} {tab : List Nat} {N : Nat} {w w' : World} (h : TabAt g tab w) (hb : Below N w w') (hg : g < N) : TabAt g tab w' :=
  fun j hj => (hb.cell (by exact hg)).trans (h j hj)
theorem tab_lt {g : Nat} {w : World} (h : TabAt g Lib.deBruijn64tab w) : g < w.heap.size := World.block_lt_of_cell? w _ (h 0 (by decide))
theorem tab_keep {g : Nat} {w w' : World} (h : TabAt g Lib.deBruijn64tab w) (hb : Below w.heap.size w w') : TabAt g Lib.deBruijn64tab w' := tab_on h hb (tab_lt h)
set_option maxRecDepth 100000 in
set_option maxHeartbeats 2000000 in
theorem list_any (b g n : Nat) (p : Nat → Bool) (w : World) (h : SetAt b g w n p) (hT : TabAt 0 Lib.deBruijn64tab w) :
    Calls Tryd.prog 26 #[.pointer (some ⟨b, 0, none⟩)] w fun e w' => ∃ a cap, e = .returned (.slice a (listP p n).length cap) ∧ ReadsL encN w'.heap.size w' a (listP p n) ∧ Below w.heap.size w w' := by
  have HS := Lib.hid h
  have HT := Lib.hid hT
  obtain ⟨a1, a2, a3, a4, ws, hw, hlen, hp, ht, hr⟩ := h
  have hl64 : ws.length ≤ 64 := by omega
  have HX : Hid (listP p n = listP (bitOf ws) (64 * ws.length)) := Lib.hid (by rw [← hp]; exact (listP_past (by omega) a4).symm)
  have HTW := Lib.hid ht
  have HRW := Lib.hid hr
  have HW := Lib.hid hw
  have hcl : (listP p n).length ≤ 4096 := Nat.le_trans (listP_len _ _) a1
  have hmk := make_ints (listP p n).length (by omega) w
  clear a2 a3 a4 hp ht hr hlen hw a1 hT
  obtain ⟨i0, hi, hz0, hz1, hz2⟩ := info_parts (show (Tryd.prog.info? 3).map (fun i => (i.zero, i.size, i.bytes)) = some (some (.int .i64 0), 1, 8) by kernel_rfl)
  refine (callsIn_wide (n := 3)).1 ?_
  have h1 : 1 ≤ 3 := by decide
  refine callsIn_of_wp_marks Tryd.func26 rfl trivial ?_ rfl
  simp only [Tryd.ntmps26, List.size_toArray, List.length_cons, List.length_nil, Nat.reduceAdd, Nat.reduceSub, Array.replicate_succ, Array.replicate_zero, List.push_toArray, List.append_toArray, List.nil_append, List.cons_append]
  gi_wp2_with (first | (gi_at_call 25; refine (callsIn_wide.2 (len_any b g n p w HS.out)).mono ?_; rintro e w' ⟨rfl, rfl⟩) | (refine ⟨trivial, ?_⟩; gi_at_call 25; refine (callsIn_wide.2 (len_any b g n p w HS.out)).mono ?_; rintro e w' ⟨rfl, rfl⟩))
  have hB0 : Below w.heap.size w ((w.alloc (.cells (madeCells #[.int .i64 0] (listP p n).length) 3)).alloc (.cells #[.slice (some ⟨w.heap.size, 0, none⟩) 0 (listP p n).length] 39)) := ((Below.refl _ w).alloc (Nat.le_refl _) _).alloc (by simp) _
  have hBox := Boxed.new (w.alloc (.cells (madeCells #[.int .i64 0] (listP p n).length) 3)) 39 (.slice (some ⟨w.heap.size, 0, none⟩) 0 (listP p n).length)
  rw [World.size_alloc] at hBox
  have hRow0 : (w.alloc (.cells (madeCells #[.int .i64 0] (listP p n).length) 3)).ownsRow w.heap.size 3 1 (.slice (some ⟨w.heap.size, 0, none⟩) 0 (listP p n).length) 0 [] :=
    World.ownsRow_made w _ _ (Nat.le_refl _) (by unfold maxLen; omega) (by rw [size_madeCells]; simp)
  have hRow := hRow0.alloc (.cells #[.slice (some ⟨w.heap.size, 0, none⟩) 0 (listP p n).length] 39)
  clear hmk hRow0
  have hsz : ((w.alloc (.cells (madeCells #[.int .i64 0] (listP p n).length) 3)).alloc (.cells #[.slice (some ⟨w.heap.size, 0, none⟩) 0 (listP p n).length] 39)).heap.size = w.heap.size + 2 := by simp
  generalize ((w.alloc (.cells (madeCells #[.int .i64 0] (listP p n).length) 3)).alloc (.cells #[.slice (some ⟨w.heap.size, 0, none⟩) 0 (listP p n).length] 39)) = W0 at *
  refine range_bound h1 (gf := 32) (recv := #[.pointer (some ⟨b, 0, none⟩)]) rfl (enters_of Tryd.func32 (by kernel_rfl) rfl) encN (listP p n)
    (fun pre W => (∃ v, Boxed W (w.heap.size + 1) 39 v ∧ W.ownsRow w.heap.size 3 1 v pre.length (pre.map encN) ∧ True) ∧ Below w.heap.size w W)
    (OwnFrom.and (Own.from (holdsRow_own w.heap.size (w.heap.size + 1) 39 3 1 (fun pre : List Nat => pre.length) (fun pre => pre.map encN) (fun _ _ => True)) _) (ownFrom_below (Nat.le_refl _) (by rw [hsz]; omega)))
    ⟨⟨_, hBox, hRow, trivial⟩, hB0⟩ ?hit
    (fun x => { tmps := #[.pointer (some ⟨b, 0, none⟩), undef, .slice none 0 0, .pointer (some ⟨w.heap.size + 1, 0, none⟩), .int .i64 (x : Int), .pointer (some ⟨b, 0, none⟩), .int .i64 ((listP p n).length : Int), .slice (some ⟨w.heap.size, 0, none⟩) 0 (listP p n).length, .pointer (some ⟨b, 0, none⟩), .func (.func 32) #[.pointer (some ⟨b, 0, none⟩)] #[], .int .i64 (x : Int), undef, undef, undef, undef, undef], defers := [] }) ?assign ?body ?done
  case hit =>
    intro l J W hJ hY h0
    rw [HX.out] at hY ⊢
    exact each_in 2 (by decide) l b g ws HW.out hl64 J (fun ys V hj => by
      have hb := (hJ _ _ hj).2
      have ht := HTW.out.on hb HTW.out.lt
      exact ⟨ht.2.1, HRW.out.on hb HS.out.lt.2, tab_keep HT.out hb⟩) hY W h0
  case assign =>
    intro l x W K hK
    gi_wp2
    exact hK
  case body =>
    rintro l pre x rest W hx ⟨⟨v, hv, hrow, -⟩, hB⟩
    have hc := hv.cell
    have hpl : pre.length + 1 ≤ 4096 := by rw [hx] at hcl; simp at hcl; omega
    clear hBox hRow hB0 hx
    gi_wp2_with (gi_at_builtin; refine wpListIn_append_own _ rfl _ _ 39 rfl w.heap.size 3 i0 (.int .i64 0) 1 8 Tryd.underlying39 hi hz0 hz1 hz2 rfl (by decide) _ _ _ rfl (hrow.alloc _) ⟨W.heap.size, 0, none⟩ 1 1 [.int .i64 (x : Int)] rfl rfl (cell_one_new _ _ _) (by simp [Value.oneCell']) (by unfold maxLen; omega) (by omega) (by have := hB.size; simp; omega) ?_; intro v' w1 hown' hgrow _; obtain ⟨g', cap', rfl⟩ := ownsRow_succ hown'; obtain ⟨hv1, hv2, hr2, hk2, hb2⟩ := hv.appended (by decide) hrow hB.size (Nat.le_succ _) hown' hgrow; have hc1 := hv1.cell; have hf1 := hv1.frozen)
    exact ⟨hk2.from _, ⟨_, hv2, by simpa [encN] using hr2, trivial⟩, hB.trans hb2⟩
  case done =>
    rintro D W hD ⟨⟨v, hv, hrow, -⟩, hB⟩ hK
    have hc := hv.cell
    gi_wp2
    refine ⟨by simp, .inl ⟨_, _, rfl, run_takeDeferred hK, ?_⟩⟩
    have hrow2 := ownsRow_putObj hrow (.deferred none) hK rfl
    obtain ⟨a, cap, rfl, hrd, -⟩ := owns_readsL rfl hrow2
    exact ⟨_, results_tmp rfl _ _ _, a, cap, rfl, hrd, hB.trans (belowK_b (w := w) (Nat.le_refl _) W D _ _ (by rw [hsz] at hD; omega) hK rfl rfl)⟩
set_option maxRecDepth 100000 in
set_option maxHeartbeats 1000000 in
theorem each_nil (m l : Nat) (R : World → Prop) (W : World) (h : R W) :
    CallsIn Fence.wide m Tryd.prog 32 #[.pointer none, .func (.yield l) #[] #[]] W fun e V => (∃ v, e = .returned v) ∧ R V := by
  refine callsIn_of_wp Tryd.func32 rfl trivial ?_ rfl
  simp only [Tryd.ntmps32, List.size_toArray, List.length_cons, List.length_nil, Nat.reduceAdd, Nat.reduceSub, Array.replicate_succ, Array.replicate_zero, List.push_toArray, List.append_toArray, List.nil_append, List.cons_append]
  gi_wp2
  refine bodyPost_ret (results_none rfl _ _ _) rfl ?_
  exact ⟨⟨_, rfl⟩, h⟩
set_option maxRecDepth 100000 in
set_option maxHeartbeats 2000000 in
theorem list_nil (w : World) :
    Calls Tryd.prog 26 #[.pointer none] w fun e w' => ∃ a cap, e = .returned (.slice a 0 cap) ∧ Below w.heap.size w w' := by
  have hmk := make_ints 0 (by omega) w
  refine (callsIn_wide (n := 3)).1 ?_
  have h1 : 1 ≤ 3 := by decide
  refine callsIn_of_wp_marks Tryd.func26 rfl trivial ?_ rfl
  simp only [Tryd.ntmps26, List.size_toArray, List.length_cons, List.length_nil, Nat.reduceAdd, Nat.reduceSub, Array.replicate_succ, Array.replicate_zero, List.push_toArray, List.append_toArray, List.nil_append, List.cons_append]
  have hmk' : (Instr.makeSlice 39 (.int .i64 0) (.int .i64 0)).run Tryd.prog w = .ok (.slice (some ⟨w.heap.size, 0, none⟩) 0 0) (w.alloc (.cells (madeCells #[.int .i64 0] 0) 3)) := hmk
  clear hmk
  gi_wp2_with (first | (gi_at_call 25; refine (callsIn_wide.2 (len_nil w)).mono ?_; rintro e w' ⟨rfl, rfl⟩) | (refine ⟨trivial, ?_⟩; gi_at_call 25; refine (callsIn_wide.2 (len_nil w)).mono ?_; rintro e w' ⟨rfl, rfl⟩))
  have hB0 : Below w.heap.size w ((w.alloc (.cells (madeCells #[.int .i64 0] 0) 3)).alloc (.cells #[.slice (some ⟨w.heap.size, 0, none⟩) 0 0] 39)) := ((Below.refl _ w).alloc (Nat.le_refl _) _).alloc (by simp) _
  have hBox := Boxed.new (w.alloc (.cells (madeCells #[.int .i64 0] 0) 3)) 39 (.slice (some ⟨w.heap.size, 0, none⟩) 0 0)
  rw [World.size_alloc] at hBox
  clear hmk'
  have hsz : ((w.alloc (.cells (madeCells #[.int .i64 0] 0) 3)).alloc (.cells #[.slice (some ⟨w.heap.size, 0, none⟩) 0 0] 39)).heap.size = w.heap.size + 2 := by simp
  generalize ((w.alloc (.cells (madeCells #[.int .i64 0] 0) 3)).alloc (.cells #[.slice (some ⟨w.heap.size, 0, none⟩) 0 0] 39)) = W0 at *
  refine range_bound h1 (gf := 32) (recv := #[.pointer none]) rfl (enters_of Tryd.func32 (by kernel_rfl) rfl) encN []
    (fun _ W => W.cell? ⟨w.heap.size + 1, 0, none⟩ = some (.slice (some ⟨w.heap.size, 0, none⟩) 0 0) ∧ Below w.heap.size w W)
    (OwnFrom.and (Own.from (fun s A B row hs hg hr => cell_kept hs hg hr) _) (ownFrom_below (Nat.le_refl _) (by rw [hsz]; omega)))
    ⟨hBox.cell, hB0⟩ ?hit
    (fun x => { tmps := #[.pointer none, undef, .slice none 0 0, .pointer (some ⟨w.heap.size + 1, 0, none⟩), encN x, .pointer none, .int .i64 0, .slice (some ⟨w.heap.size, 0, none⟩) 0 0, .pointer none, .func (.func 32) #[.pointer none] #[], encN x, undef, undef, undef, undef, undef], defers := [] }) ?assign ?body ?done
  case hit =>
    intro l J W hJ hY h0
    exact each_nil 2 l (J []) W h0
  case assign =>
    intro l x W K hK
    gi_wp2
    exact hK
  case body =>
    rintro l pre x rest W hx
    simp at hx
  case done =>
    rintro D W hD ⟨hc, hB⟩ hK
    gi_wp2
    refine ⟨by simp, .inl ⟨_, _, rfl, run_takeDeferred hK, ?_⟩⟩
    exact ⟨_, results_tmp rfl _ _ _, _, _, rfl, hB.trans (belowK_b (w := w) (Nat.le_refl _) W D _ _ (by rw [hsz] at hD; omega) hK rfl rfl)⟩
end Go.Proofs.YtkhkejfpoaleoaaDoor
