/- Texts that the laws of this seat stand on, part 36. -/
import Derived.Test.YtceejjgmepaonaaDoorPk25
import Derived.Test.YtceejjgmepaonaaDoorPk35
import Derived.Test.YtceejjgmepaonaaDoorPk1
import Derived.Deep.QuietTactic
import Derived.BigQuiet
import Derived.Test.YtceejjgmepaonaaDoorPk22
import Derived.Test.YtceejjgmepaonaaDoorPk12
import Derived.WideShapes
import Derived.ChangeReads
import Derived.ChangeSame
import Derived.Test.YtceejjgmepaonaaDoorPk14
/- What stands from call to call in layer 22's laws. -/
namespace Go.Proofs.YtceejjgmepaonaaDoor.Br
open Go.RowKit Go.ChangeShapes EdPure NtPure CutPure SdPure BrPure Cm Sd
@[go_sem] theorem made_g (x y z u : Value) (w : World) : (Instr.field 37 (.agg #[x, y, z, u]) 0).run Tryd.prog w = .ok (.agg #[x, y]) w := by kernel_rfl
def InSt (w : World) (a : Option Addr) (l : List Ed) (W : World) : Prop := Below w.heap.size w W ∧ ReadsE W.heap.size W a l
theorem InSt.keep {w W W' : World} {a : Option Addr} {l : List Ed} (h : InSt w a l W) (hb : Below W.heap.size W W') : InSt w a l W' := ⟨h.1.trans (hb.mono h.1.size), h.2.over hb (Nat.le_refl _)⟩
def TellSt (w : World) (X : Nat) (q : Option Addr) (c N : Nat) (M : List Ed) (g : Nat) (W : World) : Prop :=
  Below w.heap.size w W ∧ TwoAt X W (.int .i64 (N : Int)) (.slice q M.length c) ∧ NetAt (some ⟨g, 0, none⟩) N M W ∧ ReadsE W.heap.size W q M
theorem TellSt.keep {w W W' : World} {X : Nat} {q : Option Addr} {c N : Nat} {M : List Ed} {g : Nat} (h : TellSt w X q c N M g W) (hb : Below W.heap.size W W') : TellSt w X q c N M g W' :=
  ⟨h.1.trans (hb.mono h.1.size), h.2.1.on hb h.2.1.lt, h.2.2.1.over hb, h.2.2.2.over hb (Nat.le_refl _)⟩
def CutAt (Y : Nat) (x : Int) (q : Option Addr) (c : Nat) (L : List Int) (W : World) : Prop := TwoAt Y W (.int .i64 x) (.slice q L.length c) ∧ ReadsL encZ W.heap.size W q L
theorem CutAt.keep {W W' : World} {Y : Nat} {x : Int} {q : Option Addr} {c : Nat} {L : List Int} (h : CutAt Y x q c L W) (hb : Below W.heap.size W W') : CutAt Y x q c L W' := ⟨h.1.on hb h.1.lt, h.2.over hb (Nat.le_refl _)⟩
def GotAt (Z : Nat) (x : Int) (q : Option Addr) (c : Nat) (L : List Int) (z : Int) (W : World) : Prop := ThreeAt Z W (.int .i64 x) (.slice q L.length c) (.int .i64 z) ∧ ReadsL encZ W.heap.size W q L
theorem GotAt.keep {W W' : World} {Z : Nat} {x : Int} {q : Option Addr} {c : Nat} {L : List Int} {z : Int} (h : GotAt Z x q c L z W) (hb : Below W.heap.size W W') : GotAt Z x q c L z W' := ⟨h.1.on hb h.1.lt, h.2.over hb (Nat.le_refl _)⟩
theorem same_true (x : Int) (a b : Option Addr) (c d : Nat) (l : List Int) (hl : l.length ≤ 1000000000) (w : World) (h1 : ReadsL encZ w.heap.size w a l) (h2 : ReadsL encZ w.heap.size w b l) :
    Calls Tryd.prog 11 #[.agg #[.int .i64 x, .slice a l.length c], .agg #[.int .i64 x, .slice b l.length d]] w fun e w' => e = .returned (.bool true) ∧ Below w.heap.size w w' := by
  have h := refSame_any x x a b c d l l hl w h1 h2
  rw [decide_eq_true (rfl : l = l), decide_eq_true (rfl : x = x)] at h
  exact h
/-- A graph of few edges is merged to few. -/
theorem few_edges {N : Nat} (hN : N ≤ 4096) {l M : List Ed} (hE : errN (N : Int) l = (0, 0)) (hl : l.length ≤ 1000) (hm : mergeE l = some M) : M.length ≤ l.length := by
  have hc : ∀ e ∈ l, chkE (N : Int) e = 0 := by
    have h := congrArg (·.1) hE
    unfold errN at h
    rw [if_neg (by omega), if_neg (by omega)] at h
    exact chkL_good h
  obtain ⟨M', m1, m2, m3⟩ := merged (fun e he => by
    have h := hc e he
    unfold chkE at h
    split at h
    · next h1 => split at h
                 · next h2 => exact ⟨by unfold In; omega, by unfold In; omega, by unfold In; omega⟩
                 · omega
    · omega) hc (by omega)
  obtain rfl := Option.some.inj (m1.symm.trans hm)
  exact m3
end Go.Proofs.YtceejjgmepaonaaDoor.Br
/- A contract for the document's own look whether two lists are alike, of alike ones. -/
namespace Go.Proofs.YtceejjgmepaonaaDoor
open Go.RowKit Go.ChangeShapes
set_option maxHeartbeats 400000 in
/-- Of equal lists Same tells that they are. -/
theorem sameL_any (p q : Option Addr) (c d : Nat) (l : List Int) (w : World) (h1 : ReadsL (encInt .i64) w.heap.size w p l) (h2 : ReadsL (encInt .i64) w.heap.size w q l) (hlen : l.length ≤ 1000000) :
    Calls Tryd.prog 40 #[.slice p l.length c, .slice q l.length d] w fun e w' => e = .returned (.bool true) ∧ Below w.heap.size w w' := by
  have H1 := Lib.hid h1
  have H2 := Lib.hid h2
  have HS := Lib.hid (Below.refl w.heap.size w)
  clear h1 h2
  go_enter Tryd.func40, Tryd.ntmps40
  go_wp2
  go_loopw [5] (fun i wr => ∃ k : Nat, i = .int .i64 k ∧ k ≤ l.length ∧ Hid (Below w.heap.size w wr)) (fun i _ => l.length - (intOf i).toNat)
  case atStart => exact ⟨0, rfl, Nat.zero_le _, HS⟩
  case round =>
    obtain ⟨k, rfl, hk, HB⟩ := hrel
    by_cases hlt : k < l.length
    · obtain ⟨b0, o0, rfl, -, g0⟩ := (H1.out.on HB.out).at hlt
      obtain ⟨b1, o1, rfl, -, g1⟩ := (H2.out.on HB.out).at hlt
      unfold encInt at g0 g1
      generalize l[k] = x at *
      go_wp2
      go_quiet (fail)
      go_wp2
      go_roundw
      case rel => exact ⟨k + 1, by go_num, hlt, below_drewN HB.out _⟩
      case measure => (simp [intOf] <;> omega)
    · have hke : k = l.length := by omega
      subst hke
      go_wp2
      go_ret
      exact ⟨rfl, HB.out⟩
end Go.Proofs.YtceejjgmepaonaaDoor
/- The law's own look whether two lists of rows are the same (layer 22). -/
namespace Go.Proofs.YtceejjgmepaonaaDoor.Br
open Go.RowKit Go.ChangeShapes EdPure NtPure CutPure SdPure BrPure Cm Sd
set_option maxRecDepth 100000 in
set_option maxHeartbeats 2000000 in
theorem rows_true (a a' : Option Addr) (c1 c2 : Nat) (L : List (List Int)) (w : World) (h1 : RowsTold a L w) (h2 : RowsTold a' L w) (hl1 : L.length ≤ 1000000) (hl2 : ∀ l ∈ L, l.length ≤ 1000000) :
    Calls Tryd.prog 12 #[.slice a L.length c1, .slice a' L.length c2] w fun e w' => e = .returned (.bool true) ∧ Below w.heap.size w w' := by
  obtain ⟨M1, h1⟩ := h1
  obtain ⟨M2, h2⟩ := h2
  have H1 := Lib.hid h1
  have H2 := Lib.hid h2
  have H3 := Lib.hid hl2
  have HB0 := Lib.hid (Below.refl w.heap.size w)
  clear h1 h2 hl2
  have t : ((L.length : Int) != (L.length : Int)) = false := bne_self_eq_false _
  go_enter Tryd.func12, Tryd.ntmps12
  go_wp2
  go_loopw [5] (fun i wr => ∃ k : Nat, i = .int .i64 k ∧ k ≤ L.length ∧ Hid (Below w.heap.size w wr)) (fun i _ => L.length - (intOf i).toNat)
  case atStart => exact ⟨0, rfl, Nat.zero_le _, HB0⟩
  case round =>
    clear HB0
    obtain ⟨k, rfl, hk, HB⟩ := hrel
    by_cases hlt : k < L.length
    · have i1 : (k : Int) < (L.length : Int) := by omega
      obtain ⟨b, off, q, c, rfl, hbN, d1, hr1, -⟩ := rows_at H1.out hlt
      obtain ⟨b', off', q', c', rfl, hbN', d2, hr2, -⟩ := rows_at H2.out hlt
      have hle := H3.out _ (List.getElem_mem hlt)
      have HC : Hid (∀ W', Below w.heap.size w W' → W'.cell? ⟨b, off + k, none⟩ = some (.slice q L[k].length c) ∧ W'.cell? ⟨b', off' + k, none⟩ = some (.slice q' L[k].length c')) := Lib.hid fun W' hb => ⟨(hb.cell (p := ⟨b, off + k, none⟩) hbN).trans d1, (hb.cell (p := ⟨b', off' + k, none⟩) hbN').trans d2⟩
      have HR1 := Lib.hid hr1
      have HR2 := Lib.hid hr2
      clear hr1 hr2 d1 d2
      generalize L[k] = l at *
      go_upto_region 6 with fail
      have HD1 : Hid (Below w.heap.size w wr.drew) := Lib.hid (HB.out.drew)
      refine wp_region_held_drew (S := fun W' => W'.cell? ⟨b, off + k, none⟩ = some (.slice q l.length c) ∧ W'.cell? ⟨b', off' + k, none⟩ = some (.slice q' l.length c')) (by kernel_rfl) (HC.out _ HD1.out) (fun hHeld => ?_)
      refine wpAnyH_take (i := 0) (v := ?va0) rfl (by kernel_rfl) (by kernel_rfl) (by kernel_rfl) (fun _ _ _ h => h) (Or.inl ⟨by kernel_rfl, fun w' hSw => ?hya0⟩) (by assumption) ?resta0
      case hya0 => ((try dsimp only at hSw); go_simp; (try with_reducible rfl))
      simp only [Act.put]
      refine wpAnyH_take (i := 1) (v := ?va1) rfl (by kernel_rfl) (by kernel_rfl) (by kernel_rfl) (fun _ _ _ h => h) (Or.inl ⟨by kernel_rfl, fun w' hSw => ?hya1⟩) (by assumption) ?resta1
      case hya1 => ((try dsimp only at hSw); go_simp; (try with_reducible rfl))
      simp only [Act.put]
      refine wpAnyH_take (i := 2) (v := ?va2) rfl (by kernel_rfl) (by kernel_rfl) (by kernel_rfl) (fun _ _ _ h => h) (Or.inl ⟨by kernel_rfl, fun w' hSw => ?hya2⟩) (by assumption) ?resta2
      case hya2 => ((try dsimp only at hSw); go_simp; (try with_reducible rfl))
      simp only [Act.put]
      refine wpAnyH_take (i := 3) (v := ?va3) rfl (by kernel_rfl) (by kernel_rfl) (by kernel_rfl) (fun _ _ _ h => h) (Or.inl ⟨by kernel_rfl, fun w' hSw => ?hya3⟩) (by assumption) ?resta3
      case hya3 => ((try dsimp only at hSw); go_simp; (try with_reducible rfl))
      simp only [Act.put]
      refine wpAnyH_take (i := 4) (v := ?va4) rfl (by kernel_rfl) (by kernel_rfl) (by kernel_rfl) (fun _ _ _ h => h) (Or.inl ⟨by kernel_rfl, fun w' hSw => ?hya4⟩) (by assumption) ?resta4
      case hya4 => ((try dsimp only at hSw); go_simp; (try with_reducible rfl))
      simp only [Act.put]
      refine wpAnyH_take (i := 5) (v := ?va5) rfl (by kernel_rfl) (by kernel_rfl) (by kernel_rfl) (fun _ _ _ h => h) (Or.inl ⟨by kernel_rfl, fun w' hSw => ?hya5⟩) (by assumption) ?resta5
      case hya5 => ((try dsimp only at hSw); go_simp; (try with_reducible rfl))
      simp only [Act.put]
      refine wpAnyH_take (i := 6) (v := ?va6) rfl (by kernel_rfl) (by kernel_rfl) (by kernel_rfl) (fun _ _ _ h => h) (Or.inl ⟨by kernel_rfl, fun w' hSw => ?hya6⟩) (by assumption) ?resta6
      case hya6 => ((try dsimp only at hSw); go_simp; (try with_reducible rfl))
      simp only [Act.put]
      refine wpAnyH_take (i := 7) (v := ?va7) rfl (by kernel_rfl) (by kernel_rfl) (by kernel_rfl) (fun _ _ _ h => h) (Or.inl ⟨by kernel_rfl, fun w' hSw => ?hya7⟩) (by assumption) ?resta7
      case hya7 => ((try dsimp only at hSw); go_simp; (try with_reducible rfl))
      simp only [Act.put]
      refine wpAnyH_ready (rs := [8]) (by kernel_rfl) (by simp) ?_
      refine AllReadyH.cons rfl (fun K hK => ?_) AllReadyH.nil
      go_simp
      refine (sameL_any q q' c c' l _ ((HR1.out.on HD1.out).mono HD1.out.size) ((HR2.out.on HD1.out).mono HD1.out.size) (by omega)).mono ?_
      rintro e y1 ⟨rfl, hb1⟩
      have HD2 := Lib.hid (HD1.out.trans (hb1.mono HD1.out.size))
      clear hb1
      go_wp2_with fail
      refine hK.out _ _ ?hSa8 (fun hHeld => ?resta8)
      case hSa8 => exact HC.out _ HD2.out
      clear hK K
      refine wpAnyH_take (i := 9) (v := ?va9) rfl (by kernel_rfl) (by kernel_rfl) (by kernel_rfl) (fun _ _ _ h => h) (Or.inl ⟨by kernel_rfl, fun w' hSw => ?hya9⟩) (by assumption) ?resta9
      case hya9 => ((try dsimp only at hSw); go_simp; (try with_reducible rfl))
      simp only [Act.put]
      refine wpAnyH_done (by kernel_rfl) ?_ _
      clear HB HD1
      go_wp2
      go_roundw
      case rel => exact ⟨k + 1, by go_num, hlt, HD2⟩
      case measure => simp [intOf]; omega
    · have i1 : ¬ (k : Int) < (L.length : Int) := by omega
      go_wp2
      go_ret
      exact ⟨rfl, HB.out⟩
end Go.Proofs.YtceejjgmepaonaaDoor.Br
/- An edge by value, a list of edges, as a statement's frame tells of them. -/
namespace Go.Proofs.YtceejjgmepaonaaDoor
open Go.RowKit Go.ChangeShapes Go.WideShapes EdPure
def EdIn (W : World) (a : Option Addr) (l : List Ed) : Prop := InL l ∧ ReadsE W.heap.size W a l
theorem arr3 {α : Type} {cs : Array α} (h : cs.size = 3) : ∃ c0 c1 c2, cs = #[c0, c1, c2] := by
  obtain ⟨l⟩ := cs
  match l, h with
  | [c0, c1, c2], _ => exact ⟨c0, c1, c2, rfl⟩
set_option maxRecDepth 20000 in
theorem open_edge {H : Type} {enc : TypeId × Value → H} {W : World} {base : Nat} {sp : Nat → Bool} {held : Bool} {r : Reach} {b0 : Nat} {v : Value} {d : DataW H} {ps : List MemPlace}
    (hv : Value.okWide Tryd.prog W r b0 54 v) (h : DataW.Trod enc Tryd.prog W base sp held 54 v d ps) :
    ∃ e : Ed, v = encE e ∧ InE e := by
  have hu := Tryd.underlying54
  have hC : Tryd.prog.cellsOf 54 = 3 := by kernel_rfl
  have ci : Tryd.prog.cellsOf 3 = 1 := by kernel_rfl
  have ci2 : Tryd.prog.cellsOf 2 = 1 := by kernel_rfl
  simp only [Value.okWide, hu] at hv
  obtain ⟨cs, rfl, hsz, _⟩ := hv
  obtain ⟨c0, c1, c2, rfl⟩ := arr3 (hsz.trans hC)
  obtain ⟨fuel, hf⟩ := h
  obtain ⟨xs, k, hk, hxy, _, hxl, hfl⟩ := DataW.trod_struct hu hf
  match xs, hxl with
  | [y0, y1, y2], _ =>
    have g0 := hfl 0 _ rfl
    have g1 := hfl 1 _ rfl
    have g2 := hfl 2 _ rfl
    simp [ci, ci2, Value.cells] at g0 g1 g2
    obtain ⟨n0, q0, -, w0⟩ := DataW.trod_int (t := 3) Tryd.underlying3 g0
    obtain ⟨n1, q1, -, w1⟩ := DataW.trod_int (t := 3) Tryd.underlying3 g1
    obtain ⟨n2, q2, -, w2⟩ := DataW.trod_int (t := 2) Tryd.underlying2 g2
    have q0' : c0 = .int .i64 n0 := by simpa using q0
    have q1' : c1 = .int .i64 n1 := by simpa using q1
    have q2' : c2 = .int .i64 n2 := by simpa using q2
    subst q0' q1' q2'
    exact ⟨(n0, n1, n2), rfl, bounds_i64 w0, bounds_i64 w1, bounds_i64 w2⟩
end Go.Proofs.YtceejjgmepaonaaDoor
/- An array of two numbers by value, as a statement's frame tells of it (as an element of Int × Int). -/
namespace Go.Proofs.YtceejjgmepaonaaDoor
open Go.ChangeShapes Go.WideShapes Go.RowKit
theorem arr2 {α : Type} {cs : Array α} (h : cs.size = 2) : ∃ c0 c1, cs = #[c0, c1] := by
  obtain ⟨l⟩ := cs
  match l, h with
  | [c0, c1], _ => exact ⟨c0, c1, rfl⟩
set_option maxRecDepth 20000 in
theorem open_pairV {H : Type} {enc : TypeId × Value → H} {W : World} {base : Nat} {sp : Nat → Bool} {held : Bool} {r : Reach} {b0 : Nat} {v : Value} {d : DataW H} {ps : List MemPlace}
    (hv : Value.okWide Tryd.prog W r b0 23 v) (h : DataW.Trod enc Tryd.prog W base sp held 23 v d ps) :
    ∃ p : Int × Int, v = .agg #[.int .i64 p.1, .int .i64 p.2] ∧ ((-9223372036854775808 ≤ p.1 ∧ p.1 ≤ 9223372036854775807) ∧ -9223372036854775808 ≤ p.2 ∧ p.2 ≤ 9223372036854775807) := by
  have hu := Tryd.underlying23
  have hC : Tryd.prog.cellsOf 23 = 2 := by kernel_rfl
  have hc : Tryd.prog.cellsOf 3 = 1 := by kernel_rfl
  simp only [Value.okWide, hu] at hv
  obtain ⟨cs, rfl, hsz, _⟩ := hv
  obtain ⟨c0, c1, rfl⟩ := arr2 (hsz.trans hC)
  obtain ⟨fuel, hf⟩ := h
  cases fuel with
  | zero => simp [DataW.trod] at hf
  | succ m =>
    rw [DataW.trod_step] at hf
    unfold DataW.trodStep at hf
    simp only [hu, Value.cells, hC, hc] at hf
    rw [if_pos (show [c0, c1].length = 2 from rfl), Option.map_eq_some_iff] at hf
    obtain ⟨ys, hy, -⟩ := hf
    rw [show List.range 2 = [0, 1] from rfl, List.mapM_cons, List.mapM_cons] at hy
    simp only [bind, Option.bind_eq_some_iff, pure, Option.some.injEq] at hy
    obtain ⟨y0, h0, ys1, ⟨y1, h1, -⟩, -⟩ := hy
    obtain ⟨n0, e0, -, w0⟩ := DataW.trod_int (t := 3) Tryd.underlying3 h0
    obtain ⟨n1, e1, -, w1⟩ := DataW.trod_int (t := 3) Tryd.underlying3 h1
    have e0' : c0 = .int .i64 n0 := by simpa using e0
    have e1' : c1 = .int .i64 n1 := by simpa using e1
    exact ⟨(n0, n1), by rw [e0', e1'], bounds_i64 w0, bounds_i64 w1⟩
end Go.Proofs.YtceejjgmepaonaaDoor
/- A range over a method value whose loop variable lies in a cell of its own, and one within its rounds: what the caller owes. No function of the program is named. -/
namespace Go.Proofs.YtceejjgmepaonaaDoor
open Go.RowKit
/-- The outer range: the assignment lays the round's variable (aw), E is what it lays; the body is told its own loop's record. -/
theorem range_out {α : Type} {P : Program} {n : Nat} {g : Operand} {p : Tmp} {assign body : Code} {Q : Exit → Act → World → Prop} {a : Act} {w : World} (h1 : 1 ≤ n)
    {gf : Nat} {recv : Array Value} (hg : a.eval g = .func (.func gf) recv #[]) (eg : ∀ args w, (callFunc gf args).run P w = .ok (.enter gf args) w)
    (enc : α → Value) (xs : List α) (I : List α → World → Prop) (hI : OwnFrom w.heap.size I) (hIB : ∀ ys W W', I ys W → Below W.heap.size W W' → I ys W') (h0 : I [] w)
    (hit : ∀ (l : Nat) (J : List α → World → Prop) (W : World), (∀ ys W', J ys W' → I ys W') →
      (∀ pre x rest W', xs = pre ++ x :: rest → J pre W' → YieldAt Fence.wide (n - 1 - 1) P l #[enc x] W' fun e V => e = .returned (.bool true) ∧ J (pre ++ [x]) V) → J [] W →
      CallsIn Fence.wide (n - 1) P gf (recv ++ #[.func (.yield l) #[] #[]]) W fun e V => (∃ v, e = .returned v) ∧ J xs V)
    (a₁ : α → Nat → Act) (aw : α → World → World) (E : α → Nat → World → Prop) (hE : ∀ b, OwnFrom w.heap.size (fun x => E x b))
    (haw : ∀ x W, Below W.heap.size W (aw x W) ∧ E x W.heap.size (aw x W))
    (hassign : ∀ (l : Nat) (x : α) (W : World) (K : Act → World → Prop), K (a₁ x W.heap.size) (aw x W) →
      assign.wpIn (Fence.wide.inRound l) (n - 1 - 1) P (Exit.then K (fun _ _ _ => False)) { tmps := a.tmps.setIfInBounds p (enc x), defers := [] } W)
    (hbody : ∀ (l : Nat) (pre : List α) (x : α) (rest : List α) (b : Nat) (W : World), w.heap.size ≤ l → (∃ r, W.heap[l]? = some (.loop r)) → w.heap.size ≤ b → xs = pre ++ x :: rest → I pre W → E x b W →
      body.wpIn (Fence.wide.inRound l) (n - 1 - 1) P (staysOn w.heap.size I (pre ++ [x]) W) (a₁ x b) W)
    (hdone : ∀ (D : Nat) (W : World), w.heap.size ≤ D → I xs W → W.heap[D]? = some (.deferred (some [])) → Q .normal { a with defers := { target := .collected D, args := #[] } :: a.defers } W) :
    (Code.rangeFunc g #[p] assign body).wpIn Fence.wide n P Q a w := by
  refine wpIn_rangeFunc ?_
  intro fn hfn
  let L : LoopState → Loop := fun st => { state := st, pending := none, fn := fn, tmps := a.tmps, params := #[p], assign := assign, body := body, defers := w.heap.size }
  let D := w.heap.size
  let l := w.heap.size + 1
  obtain ⟨W1, hW1⟩ : ∃ W1, W1 = (w.alloc (.deferred (some []))).alloc (.loop (L .ready)) := ⟨_, rfl⟩
  have loopAt : W1.heap[l]? = some (.loop (L .ready)) := by
    have := World.alloc_heap_new (w.alloc (.deferred (some []))) (.loop (L .ready))
    rw [World.size_alloc] at this
    rw [hW1]; exact this
  have markAt : W1.heap[D]? = some (.deferred (some [])) := by
    rw [hW1]; exact (Below.heap_alloc _ _ _ (by simp [D])).trans (World.alloc_heap_new w _)
  let J : List α → World → Prop := fun ys W => I ys W ∧ W.heap[l]? = some (.loop (L .ready)) ∧ W.heap[D]? = some (.deferred (some []))
  have kept : ∀ {W W' : World} {k : Nat} {o : Obj}, W.heap[k]? = some o → Below W.heap.size W W' → W'.heap[k]? = some o := fun h hb => (hb.block _ (Array.getElem?_eq_some_iff.1 h).1).trans h
  refine ⟨l, [{ target := .collected D, args := #[] }], W1, { target := .fn (.func gf) #[], args := recv ++ #[.func (.yield l) #[] #[]] }, W1, gf, recv ++ #[.func (.yield l) #[] #[]], W1, ?_, ?_, ?_, ?_, fun _ => h1, ?_⟩
  · rw [hW1]; exact run_enterLoop_outer _ _ _ _ _
  · simp only [resolve, hg]
    simp [go_sem]
  · intro f' hf'; trivial
  · simp [invoke, go_sem, eg]
  · refine (hit l J W1 (fun ys W' h => h.1) ?_ ⟨by rw [hW1]; exact hI.alloc _ (hI.alloc _ h0), loopAt, markAt⟩).mono ?_
    · rintro pre x rest W hx ⟨hi, hl, hd⟩
      have hlt : l < W.heap.size := (Array.getElem?_eq_some_iff.1 hl).1
      have hy : (Instr.yield l #[enc x]).run P W = .ok (.round l fn (a.tmps.setIfInBounds p (enc x)) assign body) W := by
        have h := run_yield (P := P) (args := #[enc x]) hl rfl
        simpa [L] using h
      refine ⟨fn, _, assign, body, hy, roundIn_of_wpIn hfn ?_⟩
      refine hassign l x W _ ?_
      obtain ⟨hab, hae⟩ := haw x W
      have hi2 := hIB _ _ _ hi hab
      have hl2 := kept hl hab
      have hd2 := kept hd hab
      have hlt2 : l < (aw x W).heap.size := Nat.lt_of_lt_of_le hlt hab.size
      have hbig : w.heap.size ≤ W.heap.size := by have : l < W.heap.size := hlt; simp only [l] at this; omega
      generalize hbN : W.heap.size = bN at *
      refine ⟨_, run_beginRound hl2 rfl, ?_⟩
      have busy : ((aw x W).putObj l (.loop (L .busy))).heap[l]? = some (.loop (L .busy)) := World.putObj_heap_same hlt2
      have mark2 : ((aw x W).putObj l (.loop (L .busy))).heap[D]? = some (.deferred (some [])) := (World.putObj_heap_other (by simp [D, l])).trans hd2
      refine wpIn_mono (hbody l pre x rest bN ((aw x W).putObj l (.loop (L .busy))) (by simp [l]) ⟨_, busy⟩ hbig hx (hI.putObj _ hi2 (by simp [l]) hl2 rfl) ((hE bN).putObj _ hae (by simp [l]) hl2 rfl)) ?_
      intro e act W3 hp
      cases e with
      | normal =>
        obtain ⟨hk, hi3⟩ := hp
        have hl3 := hk.same l _ (by simp [l]) busy rfl
        have hd3 := hk.same D _ (by simp [D]) mark2 rfl
        exact ⟨_, _, run_endRound (P := P) none hl3, rfl, hI.putObj _ hi3 (by simp [l]) hl3 rfl, World.putObj_heap_same (Array.getElem?_eq_some_iff.1 hl3).1, (World.putObj_heap_other (by simp [D, l])).trans hd3⟩
      | ret => exact hp.elim
      | exit id => exact hp.elim
      | goto t => exact hp.elim
      | panic c => exact hp.elim
      | outgrown => exact hp.elim
    · rintro e W2 ⟨⟨v, rfl⟩, hi, hl, hd⟩
      exact ⟨none, _, run_endLoop (P := P) hl (by simp [L]), hdone D _ (Nat.le_refl _) (hI.putObj _ hi (by simp [l]) hl rfl) ((World.putObj_heap_other (by simp [D, l])).trans hd)⟩
/-- The range within a round of the loop l₀. -/
theorem range_in {α : Type} {P : Program} {n : Nat} {g : Operand} {p : Tmp} {assign body : Code} {Q : Exit → Act → World → Prop} {a : Act} {w : World} {l₀ : Nat} {r₀ : Loop} (hl₀ : w.heap[l₀]? = some (.loop r₀)) (h1 : 1 ≤ n)
    {gf : Nat} {recv : Array Value} (hg : a.eval g = .func (.func gf) recv #[]) (eg : ∀ args w, (callFunc gf args).run P w = .ok (.enter gf args) w)
    (enc : α → Value) (xs : List α) (I : List α → World → Prop) (hI : OwnFrom w.heap.size I) (h0 : I [] w)
    (hit : ∀ (l : Nat) (J : List α → World → Prop) (W : World), (∀ ys W', J ys W' → I ys W') →
      (∀ pre x rest W', xs = pre ++ x :: rest → J pre W' → YieldAt Fence.wide (n - 1 - 1) P l #[enc x] W' fun e V => e = .returned (.bool true) ∧ J (pre ++ [x]) V) → J [] W →
      CallsIn Fence.wide (n - 1) P gf (recv ++ #[.func (.yield l) #[] #[]]) W fun e V => (∃ v, e = .returned v) ∧ J xs V)
    (a₁ : α → Act)
    (hassign : ∀ (l : Nat) (x : α) (W : World) (K : Act → World → Prop), K (a₁ x) W →
      assign.wpIn (Fence.wide.inRound l) (n - 1 - 1) P (Exit.then K (fun _ _ _ => False)) { tmps := a.tmps.setIfInBounds p (enc x), defers := [] } W)
    (hbody : ∀ (l : Nat) (pre : List α) (x : α) (rest : List α) (W : World), xs = pre ++ x :: rest → I pre W → body.wpIn (Fence.wide.inRound l) (n - 1 - 1) P (staysOn w.heap.size I (pre ++ [x]) W) (a₁ x) W)
    (hdone : ∀ (W : World), I xs W → Q .normal a W) :
    (Code.rangeFunc g #[p] assign body).wpIn (Fence.wide.inRound l₀) n P Q a w := by
  refine wpIn_rangeFunc ?_
  intro fn hfn
  let L : LoopState → Loop := fun st => { state := st, pending := none, fn := fn, tmps := a.tmps, params := #[p], assign := assign, body := body, defers := r₀.defers }
  let l := w.heap.size
  obtain ⟨W1, hW1⟩ : ∃ W1, W1 = w.alloc (.loop (L .ready)) := ⟨_, rfl⟩
  have loopAt : W1.heap[l]? = some (.loop (L .ready)) := by rw [hW1]; exact World.alloc_heap_new w _
  let J : List α → World → Prop := fun ys W => I ys W ∧ W.heap[l]? = some (.loop (L .ready))
  refine ⟨l, [], W1, { target := .fn (.func gf) #[], args := recv ++ #[.func (.yield l) #[] #[]] }, W1, gf, recv ++ #[.func (.yield l) #[] #[]], W1, ?_, ?_, ?_, ?_, fun _ => h1, ?_⟩
  · rw [hW1]; exact run_enterLoop_inner hl₀ _ _ _ _ _
  · simp only [resolve, hg]
    simp [go_sem]
  · intro f' hf'; trivial
  · simp [invoke, go_sem, eg]
  · refine (hit l J W1 (fun ys W' h => h.1) ?_ ⟨by rw [hW1]; exact hI.alloc _ h0, loopAt⟩).mono ?_
    · rintro pre x rest W hx ⟨hi, hl⟩
      have hlt : l < W.heap.size := (Array.getElem?_eq_some_iff.1 hl).1
      have hy : (Instr.yield l #[enc x]).run P W = .ok (.round l fn (a.tmps.setIfInBounds p (enc x)) assign body) W := by
        have h := run_yield (P := P) (args := #[enc x]) hl rfl
        simpa [L] using h
      refine ⟨fn, _, assign, body, hy, roundIn_of_wpIn hfn ?_⟩
      refine hassign l x W _ ?_
      refine ⟨_, run_beginRound hl rfl, ?_⟩
      have busy : (W.putObj l (.loop (L .busy))).heap[l]? = some (.loop (L .busy)) := World.putObj_heap_same hlt
      refine wpIn_mono (hbody l pre x rest (W.putObj l (.loop (L .busy))) hx (hI.putObj _ hi (Nat.le_refl _) hl rfl)) ?_
      intro e act W3 hp
      cases e with
      | normal =>
        obtain ⟨hk, hi3⟩ := hp
        have hl3 := hk.same l _ (Nat.le_refl _) busy rfl
        exact ⟨_, _, run_endRound (P := P) none hl3, rfl, hI.putObj _ hi3 (Nat.le_refl _) hl3 rfl, World.putObj_heap_same (Array.getElem?_eq_some_iff.1 hl3).1⟩
      | ret => exact hp.elim
      | exit id => exact hp.elim
      | goto t => exact hp.elim
      | panic c => exact hp.elim
      | outgrown => exact hp.elim
    · rintro e W2 ⟨⟨v, rfl⟩, hi, hl⟩
      exact ⟨none, _, run_endLoop (P := P) hl (by simp [L]), hdone _ (hI.putObj _ hi (Nat.le_refl _) hl rfl)⟩
end Go.Proofs.YtceejjgmepaonaaDoor
