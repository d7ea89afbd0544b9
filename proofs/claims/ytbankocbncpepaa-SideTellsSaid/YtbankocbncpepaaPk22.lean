/- Texts that the laws of this seat stand on, part 22. -/
import Derived.Test.YtbankocbncpepaaPk21
import Derived.Test.YtbankocbncpepaaPk20
import Derived.Test.YtbankocbncpepaaPk4
import Derived.Test.YtbankocbncpepaaPk15
/- A range, with two variables, over a function value that holds captured variables, where the body always goes on: what the caller owes. No function of the program is named. -/
namespace Go.Proofs.Ytbankocbncpepaa
open Go.RowKit
/-- The range: the function value has its captured variables behind yield; it hands over just xs, two values each; the caller's word I speaks of its own cells and of what is never turned; E is what the assignment lays for the round. -/
theorem range_shut {α : Type} {P : Program} {n : Nat} {g : Operand} {p q : Tmp} {assign body : Code} {Q : Exit → Act → World → Prop} {a : Act} {w : World} (h1 : 1 ≤ n)
    {gf : Nat} {caps : Array Value} (hg : a.eval g = .func (.func gf) #[] caps) (eg : ∀ args w, (callFunc gf args).run P w = .ok (.enter gf args) w)
    (e1 e2 : α → Value) (xs : List α) (I : List α → World → Prop) (hI : OwnFrom w.heap.size I) (hIB : ∀ ys W W', I ys W → Below W.heap.size W W' → I ys W') (h0 : I [] w)
    (hit : ∀ (l : Nat) (J : List α → World → Prop) (W : World), (∀ ys W', J ys W' → I ys W') → (∀ ys W' W'', J ys W' → Below W'.heap.size W' W'' → J ys W'') →
      (∀ pre x rest W', xs = pre ++ x :: rest → J pre W' → YieldAt Fence.wide (n - 1 - 1) P l #[e1 x, e2 x] W' fun e V => e = .returned (.bool true) ∧ J (pre ++ [x]) V) → J [] W →
      CallsIn Fence.wide (n - 1) P gf (#[.func (.yield l) #[] #[]] ++ caps) W fun e V => (∃ v, e = .returned v) ∧ J xs V)
    (a₁ : α → Nat → Act) (aw : α → World → World) (E : α → Nat → World → Prop) (hE : ∀ b, OwnFrom w.heap.size (fun x => E x b))
    (haw : ∀ x W, Below W.heap.size W (aw x W) ∧ E x W.heap.size (aw x W))
    (hassign : ∀ (l : Nat) (x : α) (W : World) (K : Act → World → Prop), K (a₁ x W.heap.size) (aw x W) →
      assign.wpIn (Fence.wide.inRound l) (n - 1 - 1) P (Exit.then K (fun _ _ _ => False)) { tmps := (a.tmps.setIfInBounds p (e1 x)).setIfInBounds q (e2 x), defers := [] } W)
    (hbody : ∀ (l : Nat) (pre : List α) (x : α) (rest : List α) (b : Nat) (W : World), xs = pre ++ x :: rest → I pre W → E x b W → body.wpIn (Fence.wide.inRound l) (n - 1 - 1) P (staysOn w.heap.size I (pre ++ [x]) W) (a₁ x b) W)
    (hdone : ∀ (D : Nat) (W : World), w.heap.size ≤ D → I xs W → W.heap[D]? = some (.deferred (some [])) → Q .normal { a with defers := { target := .collected D, args := #[] } :: a.defers } W) :
    (Code.rangeFunc g #[p, q] assign body).wpIn Fence.wide n P Q a w := by
  refine wpIn_rangeFunc ?_
  intro fn hfn
  let L : LoopState → Loop := fun st => { state := st, pending := none, fn := fn, tmps := a.tmps, params := #[p, q], assign := assign, body := body, defers := w.heap.size }
  let D := w.heap.size
  let l := w.heap.size + 1
  obtain ⟨W1, hW1⟩ : ∃ W1, W1 = (w.alloc (.deferred (some []))).alloc (.loop (L .ready)) := ⟨_, rfl⟩
  have loopAt : W1.heap[l]? = some (.loop (L .ready)) := by
    have := World.alloc_heap_new (w.alloc (.deferred (some []))) (.loop (L .ready))
    rw [World.size_alloc] at this
    rw [hW1]; exact this
  have markAt : W1.heap[D]? = some (.deferred (some [])) := by
    rw [hW1]; exact (Below.heap_alloc _ _ _ (by simp [D])).trans (World.alloc_heap_new w _)
  let J : List α → World → Prop := fun ys W => I ys W ∧ W.heap[l]? = some (.loop (L .ready)) ∧ W.heap[D]? = some (.deferred (some []))
  have kept : ∀ {W W' : World} {k : Nat} {o : Obj}, W.heap[k]? = some o → Below W.heap.size W W' → W'.heap[k]? = some o := fun h hb => (hb.block _ (Array.getElem?_eq_some_iff.1 h).1).trans h
  refine ⟨l, [{ target := .collected D, args := #[] }], W1, { target := .fn (.func gf) caps, args := #[.func (.yield l) #[] #[]] }, W1, gf, #[.func (.yield l) #[] #[]] ++ caps, W1, ?_, ?_, ?_, ?_, fun _ => h1, ?_⟩
  · rw [hW1]; exact run_enterLoop_outer _ _ _ _ _
  · simp only [resolve, hg]
    simp [go_sem]
  · intro f' hf'; trivial
  · simp [invoke, go_sem, eg]
  · refine (hit l J W1 (fun ys W' h => h.1) (fun ys W' W'' h hb => ⟨hIB _ _ _ h.1 hb, kept h.2.1 hb, kept h.2.2 hb⟩) ?_ ⟨by rw [hW1]; exact hI.alloc _ (hI.alloc _ h0), loopAt, markAt⟩).mono ?_
    · rintro pre x rest W hx ⟨hi, hl, hd⟩
      have hlt : l < W.heap.size := (Array.getElem?_eq_some_iff.1 hl).1
      have hy : (Instr.yield l #[e1 x, e2 x]).run P W = .ok (.round l fn ((a.tmps.setIfInBounds p (e1 x)).setIfInBounds q (e2 x)) assign body) W := by
        have h := run_yield (P := P) (args := #[e1 x, e2 x]) hl rfl
        simpa [L] using h
      refine ⟨fn, _, assign, body, hy, roundIn_of_wpIn hfn ?_⟩
      refine hassign l x W _ ?_
      obtain ⟨hab, hae⟩ := haw x W
      have hi2 := hIB _ _ _ hi hab
      have hl2 := kept hl hab
      have hd2 := kept hd hab
      have hlt2 : l < (aw x W).heap.size := Nat.lt_of_lt_of_le hlt hab.size
      generalize hbN : W.heap.size = bN at *
      refine ⟨_, run_beginRound hl2 rfl, ?_⟩
      have busy : ((aw x W).putObj l (.loop (L .busy))).heap[l]? = some (.loop (L .busy)) := World.putObj_heap_same hlt2
      have mark2 : ((aw x W).putObj l (.loop (L .busy))).heap[D]? = some (.deferred (some [])) := (World.putObj_heap_other (by simp [D, l])).trans hd2
      refine wpIn_mono (hbody l pre x rest bN ((aw x W).putObj l (.loop (L .busy))) hx (hI.putObj _ hi2 (by simp [l]) hl2 rfl) ((hE bN).putObj _ hae (by simp [l]) hl2 rfl)) ?_
      intro e act W3 hp
      cases e with
      | normal =>
        obtain ⟨hk, hi3⟩ := hp
        have hl3 := hk.same l _ (by simp [l]) busy rfl
        have hd3 := hk.same D _ (by simp [D]) mark2 rfl
        exact ⟨_, _, run_endRound (P := P) none hl3, rfl, hI.putObj _ hi3 (by simp [l]) hl3 rfl, World.putObj_heap_same (Array.getElem?_eq_some_iff.1 hl3).1, (World.putObj_heap_other (by simp [D, l])).trans hd3⟩
      | ret => exact hp.elim
      | exit id => exact hp.elim
      | goto t => exact hp.elim
      | panic c => exact hp.elim
      | outgrown => exact hp.elim
    · rintro e W2 ⟨⟨v, rfl⟩, hi, hl, hd⟩
      exact ⟨none, _, run_endLoop (P := P) hl (by simp [L]), hdone D _ (Nat.le_refl _) (hI.putObj _ hi (by simp [l]) hl rfl) ((World.putObj_heap_other (by simp [D, l])).trans hd)⟩
end Go.Proofs.Ytbankocbncpepaa
/- What crosses a side, one edge by one: the range's function hands over just the edges that cross; and how it comes about. -/
namespace Go.Proofs.Ytbankocbncpepaa.Sd
open Go.RowKit Go.ChangeShapes EdPure NtPure CutPure SdPure Cm Vs
attribute [local go_sem] Oper.semAt_some
/-- The set of a side parts the ends of an edge that crosses. -/
theorem parts_cross {N : Nat} {M : List Ed} (hG : GoodN N M) (l : List Int) {k : Nat} (hk : k < M.length) : partsP N (ofP N l) M[k].1 M[k].2.1 = crossB (inS l) M[k] := by
  have hm := List.getElem_mem hk
  have h1 := hG.2.1 M[k] hm
  have h2 := (hG.1.2 M[k] hm).1
  have key : ∀ v : Int, 0 ≤ v → v < N → ofP N l v.toNat = inS l v := fun v v0 v1 => by
    unfold ofP
    cases hb : inS l v with
    | true =>
      rw [List.any_eq_true]
      exact ⟨v, inS_iff.1 hb, by unfold fitB; simp; omega⟩
    | false =>
      rw [List.any_eq_false]
      intro x hx
      have hne : x ≠ v := fun e => by rw [e] at hx; rw [inS_iff.2 hx] at hb; cases hb
      simp; omega
  unfold partsP crossB fitB
  rw [key _ (by omega) (by omega), key _ (by omega) (by omega), decide_eq_true (show (0 : Int) ≤ M[k].1 by omega), decide_eq_true (show M[k].1 < (N : Int) by omega), decide_eq_true (show (0 : Int) ≤ M[k].2.1 by omega), decide_eq_true (show M[k].2.1 < (N : Int) by omega)]
  simp
theorem at_edge {M : List Ed} {k : Nat} (hk : k < M.length) : atE M (k : Int) = M[k] := by
  unfold atE
  rw [dif_pos (by omega)]
  rfl
/-- The captured variables: the graph, the set of the side. -/
def CrSt (p : Option Addr) (N : Nat) (M : List Ed) (l : List Int) (X Y sb sg : Nat) (W : World) : Prop :=
  W.cell? ⟨X, 0, none⟩ = some (.pointer p) ∧ NetAt p N M W ∧ W.cell? ⟨Y, 0, none⟩ = some (.pointer (some ⟨sb, 0, none⟩)) ∧ SetAt sb sg W N (ofP N l)
theorem CrSt.keep {p : Option Addr} {N : Nat} {M : List Ed} {l : List Int} {X Y sb sg : Nat} {W W' : World} (h : CrSt p N M l X Y sb sg W) (hb : Below W.heap.size W W') : CrSt p N M l X Y sb sg W' :=
  ⟨(hb.cell (World.block_lt_of_cell? W _ h.1)).trans h.1, h.2.1.over hb, (hb.cell (World.block_lt_of_cell? W _ h.2.2.1)).trans h.2.2.1, h.2.2.2.keep hb⟩
theorem cross_cut (M : List Ed) (S : Int → Bool) {k : Nat} (hk : k < M.length) (hc : crossB S M[k] = true) : ∃ rest, crossL M S M.length = crossL M S k ++ (k : Int) :: rest := by
  have : ∀ j, k + 1 + j ≤ M.length → ∃ rest, crossL M S (k + 1 + j) = crossL M S k ++ (k : Int) :: rest := by
    intro j
    induction j with
    | zero =>
      intro _
      exact ⟨[], by rw [Nat.add_zero, cross_succ S hk, if_pos hc]⟩
    | succ j ih =>
      intro hj
      obtain ⟨r, hr⟩ := ih (by omega)
      exact ⟨r ++ _, by rw [show k + 1 + (j + 1) = (k + 1 + j) + 1 by omega, cross_succ S (by omega), hr, List.append_assoc, List.cons_append]⟩
  obtain ⟨r, hr⟩ := this (M.length - (k + 1)) (by omega)
  exact ⟨r, by rw [← hr]; congr 1; omega⟩
set_option maxRecDepth 100000 in
set_option maxHeartbeats 2000000 in
theorem cross_in (m : Nat) (hm : 1 ≤ m) (lp X Y sb sg : Nat) (p : Option Addr) (N : Nat) (M : List Ed) (hG : GoodN N M) (hM : M.length ≤ 1048576) (l : List Int) (J : List Int → World → Prop)
    (hJ : ∀ ys W, J ys W → CrSt p N M l X Y sb sg W) (hB : ∀ ys W W', J ys W → Below W.heap.size W W' → J ys W')
    (hY : ∀ (pre : List Int) (x : Int) (rest : List Int) (W : World), crossL M (inS l) M.length = pre ++ x :: rest → J pre W → YieldAt Fence.wide (m - 1) Try.prog lp #[.int .i64 x, encE (atE M x)] W fun e V => e = .returned (.bool true) ∧ J (pre ++ [x]) V)
    (W : World) (h0 : J [] W) :
    CallsIn Fence.wide m Try.prog 43 #[.func (.yield lp) #[] #[], .pointer (some ⟨X, 0, none⟩), .pointer (some ⟨Y, 0, none⟩)] W fun e V => (∃ v, e = .returned v) ∧ J (crossL M (inS l) M.length) V := by
  have HJ := Lib.hid hJ
  have HB := Lib.hid hB
  have HY := Lib.hid hY
  have HG := Lib.hid hG
  have c1 := (hJ _ _ h0).1
  have HM := Lib.hid (cnt_any p N M W (hJ _ _ h0).2.1)
  have HJ0 := Lib.hid h0
  clear hJ hY hG hB h0
  refine callsIn_of_wp Try.func43 rfl trivial ?_ rfl
  simp only [Try.ntmps43, List.size_toArray, List.length_cons, List.length_nil, Nat.reduceAdd, Nat.reduceSub, Array.replicate_succ, Array.replicate_zero, List.push_toArray, List.append_toArray, List.nil_append, List.cons_append]
  gi_wp2_with (first | (refine ⟨trivial, ?_⟩; gi_at_call 44; refine (callsIn_wide.2 HM.out).mono ?_; rintro e w' ⟨rfl, hb⟩; have HJ1 := Lib.hid (HB.out _ _ _ HJ0.out hb); clear hb))
  clear c1 HM HJ0
  gi_loopw [9] (fun i wr => ∃ k : Nat, k ≤ M.length ∧ i = .int .i64 k ∧ Hid (J (crossL M (inS l) k) wr)) (fun i _ => M.length - (intOf i).toNat)
  case atStart => exact ⟨0, Nat.zero_le _, rfl, HJ1⟩
  case round =>
    obtain ⟨k, hk, rfl, HS⟩ := hrel
    clear HJ1
    have i0 : (0 : Int) ≤ (k : Int) := by omega
    by_cases hlt : k < M.length
    · have i1 : (k : Int) < (M.length : Int) := by omega
      have HP := Lib.hid (parts_cross HG.out l hlt)
      have HC := Lib.hid (fun hc => cross_cut M (inS l) hlt hc)
      have HN := Lib.hid (cross_succ (inS l) (M := M) hlt)
      have HA := Lib.hid (at_edge hlt)
      have c1 := (HJ.out _ _ HS.out).1
      have HE := Lib.hid (edge_any p N M (k : Int) wr (HJ.out _ _ HS.out).2.1)
      rw [HA.out] at HE
      have HYk := Lib.hid (fun rest W h hj => HY.out (crossL M (inS l) k) (k : Int) rest W h hj)
      rw [HA.out] at HYk
      obtain ⟨u, v, z, he⟩ : ∃ u v z, M[k] = (u, v, z) := ⟨_, _, _, rfl⟩
      rw [he] at HP HC HN HE HYk
      unfold encE at HE HYk
      simp only at HP HC HN HE HYk
      generalize crossB (inS l) (u, v, z) = cb at *
      clear he HA
      gi_wp2_with fail
      refine ⟨trivial, ?_⟩
      gi_at_call 45
      refine (callsIn_wide.2 HE.out).mono ?_
      rintro e w1 ⟨rfl, hb1⟩
      have hb2 : Below wr.heap.size wr (w1.alloc (.cells #[.int .i64 u, .int .i64 v, .int .i64 z] 58)) := hb1.alloc hb1.size _
      have HS2 := Lib.hid (HB.out _ _ _ HS.out hb2)
      obtain ⟨e0, e1, e2, -, -, -⟩ := ThreeAt.new w1 (.int .i64 u) (.int .i64 v) (.int .i64 z) 58
      obtain ⟨-, -, c3, hset⟩ := HJ.out _ _ HS2.out
      have HPa := Lib.hid (parts_any sb sg N (ofP N l) u v _ hset)
      rw [HP.out] at HPa
      clear c1 hb1 hb2 hset HE
      cases cb with
      | false =>
        have HX : Hid (crossL M (inS l) (k + 1) = crossL M (inS l) k) := Lib.hid (by rw [HN.out, if_neg (by decide), List.append_nil])
        gi_wp2_with fail
        refine ⟨trivial, ?_⟩
        gi_at_call 46
        refine (callsIn_wide.2 HPa.out).mono ?_
        rintro e w3 ⟨rfl, j, rfl⟩
        have HS3 := Lib.hid (HB.out _ _ _ HS2.out (below_drewN (Below.refl _ _) j))
        gi_wp2
        refine ⟨fun f hf => (by cases hf), ?_⟩
        gi_wp2
        go_roundw
        case rel => exact ⟨k + 1, by omega, by go_num, by rw [HX.out]; exact HS3⟩
        case measure => (simp [intOf] <;> omega)
      | true =>
        have HX : Hid (crossL M (inS l) (k + 1) = crossL M (inS l) k ++ [(k : Int)]) := Lib.hid (by rw [HN.out, if_pos rfl])
        gi_wp2_with fail
        refine ⟨trivial, ?_⟩
        gi_at_call 46
        refine (callsIn_wide.2 HPa.out).mono ?_
        rintro e w3 ⟨rfl, j, rfl⟩
        have HS3 := Lib.hid (HB.out _ _ _ HS2.out (below_drewN (Below.refl _ _) j))
        obtain ⟨rest, hrest⟩ := HC.out trivial
        obtain ⟨fn, tmps, assign, body, hyd, hR⟩ := HYk.out rest _ hrest HS3.out
        clear hrest
        gi_wp2_with fail
        refine hR.mono ?_
        rintro e W3 ⟨rfl, hJ3⟩
        have HS4 := Lib.hid hJ3
        clear hJ3 hR hyd
        gi_wp2
        go_roundw
        case rel => exact ⟨k + 1, by omega, by go_num, by rw [HX.out]; exact HS4⟩
        case measure => (simp [intOf] <;> omega)
    · have hke : k = M.length := by omega
      subst hke
      gi_wp2
      go_end0
      exact ⟨⟨_, rfl⟩, HS.out⟩
/-- The range's function: its captured variables tell the graph and the side. -/
def CrossOut (p : Option Addr) (N : Nat) (M : List Ed) (l : List Int) (w : World) (e : Ending) (w' : World) : Prop :=
  Below w.heap.size w w' ∧ ∃ X Y sb sg, (w.heap.size ≤ X ∧ w.heap.size ≤ Y ∧ w.heap.size ≤ sb ∧ w.heap.size ≤ sg) ∧ e = .returned (.func (.func 43) #[] #[.pointer (some ⟨X, 0, none⟩), .pointer (some ⟨Y, 0, none⟩)]) ∧ CrSt p N M l X Y sb sg w'
set_option maxRecDepth 100000 in
set_option maxHeartbeats 1000000 in
theorem crossing_any (p : Option Addr) (N : Nat) (M : List Ed) (hN : N ≤ 4096) (b : Option Addr) (d : Nat) (l : List Int) (hl : l.length ≤ 100000) (w : World) (h : NetAt p N M w) (hS : ReadsL encZ w.heap.size w b l) :
    Calls Try.prog 28 #[.pointer p, .slice b l.length d] w fun e w' => CrossOut p N M l w e w' := by
  have hb0 : Below w.heap.size w (w.alloc (.cells #[.pointer p] 25)) := (Below.refl _ _).alloc (Nat.le_refl _) _
  have HN0 := Lib.hid (h.over hb0)
  have HS0 := Lib.hid (hS.over hb0 (Nat.le_refl _))
  have hBox := (Boxed.new w 25 (.pointer p)).cell
  have HB0 := Lib.hid hb0
  have hr : roomN (N : Int) = N := roomN_of N hN
  have HR := Lib.hid hr
  clear h hS hb0 hr
  go_enter Try.func28, Try.ntmps28
  go_wp2_with fail
  generalize w.alloc (.cells #[.pointer p] 25) = W0 at *
  refine (num_any p N M W0 HN0.out).mono ?_
  rintro e w1 ⟨rfl, hb1⟩
  have HB1 := Lib.hid (HB0.out.trans (hb1.mono HB0.out.size))
  have HN1 := Lib.hid (HN0.out.over hb1)
  have HS1 := Lib.hid (HS0.out.over hb1 (Nat.le_refl _))
  have HX1 : Hid (w1.cell? ⟨w.heap.size, 0, none⟩ = some (.pointer p)) := Lib.hid ((hb1.cell (World.block_lt_of_cell? W0 _ hBox)).trans hBox)
  clear hb1 hBox HN0 HS0 HB0
  go_wp2_with fail
  refine (of_any (N : Int) (by omega) (by omega) b d l w1 HS1.out hl).mono ?_
  rintro e w2 ⟨rfl, hb2, hset⟩
  rw [HR.out] at hset
  have hlt := World.block_lt_of_cell? w1 _ HX1.out
  have HX2 : Hid (w2.cell? ⟨w.heap.size, 0, none⟩ = some (.pointer p)) := Lib.hid ((hb2.cell hlt).trans HX1.out)
  have HN2 := Lib.hid (HN1.out.over hb2)
  have HB2 := Lib.hid (HB1.out.trans (hb2.mono HB1.out.size))
  have HSet := Lib.hid hset
  have HSz : Hid (w.heap.size ≤ w1.heap.size ∧ w.heap.size ≤ w2.heap.size) := Lib.hid ⟨HB1.out.size, HB2.out.size⟩
  clear hb2 hset hlt
  generalize w1.heap.size = sg at *
  have hb3 : Below w2.heap.size w2 (w2.alloc (.cells #[.pointer (some ⟨sg + 1, 0, none⟩)] 92)) := (Below.refl _ _).alloc (Nat.le_refl _) _
  have hend : CrSt p N M l w.heap.size w2.heap.size (sg + 1) sg (w2.alloc (.cells #[.pointer (some ⟨sg + 1, 0, none⟩)] 92)) :=
    ⟨(hb3.cell (World.block_lt_of_cell? w2 _ HX2.out)).trans HX2.out, HN2.out.over hb3, (Boxed.new w2 92 (.pointer (some ⟨sg + 1, 0, none⟩))).cell, HSet.out.keep hb3⟩
  have HE := Lib.hid (And.intro (HB2.out.trans (hb3.mono HB2.out.size)) hend)
  have hmf : ∀ (w : World) (x y : Value), (Instr.makeFunc (.func 43) #[] #[x, y]).run Try.prog w = .ok (.func (.func 43) #[] #[x, y]) w := fun w x y => rfl
  clear hb3 hend HX1 HN1 HS1 HB1
  go_wp2
  go_ret
  exact ⟨HE.out.1, _, _, _, _, ⟨Nat.le_refl _, HSz.out.2, Nat.le_succ_of_le HSz.out.1, HSz.out.1⟩, rfl, HE.out.2⟩
end Go.Proofs.Ytbankocbncpepaa.Sd
/- Why there is no graph of so many vertices and these edges. -/
namespace Go.Proofs.Ytbankocbncpepaa
open Go.RowKit Go.ChangeShapes EdPure
/-- Why there is no graph, and where. -/
def errN (n : Int) (l : List Ed) : Int × Int := if n < 0 then (1, 0) else if 4096 < n ∨ 1048576 < l.length then (3, 0) else chkL n l 0
theorem chkL_good {n : Int} : ∀ {l : List Ed} {i : Nat}, (chkL n l i).1 = 0 → ∀ e ∈ l, chkE n e = 0
  | [], _, _, e, he => by simp at he
  | x :: r, i, h, e, he => by
    unfold chkL at h
    by_cases hx : chkE n x = 0
    · rw [if_pos hx] at h
      rcases List.mem_cons.1 he with rfl | he
      · exact hx
      · exact chkL_good h e he
    · rw [if_neg hx] at h
      exact absurd h hx
theorem chkL_zero {n : Int} {l : List Ed} (h : (chkL n l 0).1 = 0) : chkL n l 0 = (0, 0) :=
  chk_miss n l 0 fun _ hj => chkL_good h _ (List.getElem_mem hj)
end Go.Proofs.Ytbankocbncpepaa
