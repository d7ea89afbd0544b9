/- Texts that the laws of this seat stand on, part 35. -/
import Derived.Test.YtceejjgmepaonaaGreatDoorPk26
import Derived.Test.YtceejjgmepaonaaGreatDoorPk34
import Derived.Test.YtceejjgmepaonaaGreatDoorPk8
import Derived.WideShapes
import Derived.ChangeReads
import Derived.Test.YtceejjgmepaonaaGreatDoorPk29
import Derived.Test.YtceejjgmepaonaaGreatDoorPk15
import Derived.Test.YtceejjgmepaonaaGreatDoorRows
import Derived.Test.YtceejjgmepaonaaGreatDoorPk5
import Derived.Lib.LaidTab
import Derived.LaidLaws
import Derived.ChangeVars
import Derived.ChangeSame
import Derived.JoinedOf
import Derived.RowKit
import Derived.Handed
import Derived.ProofKit
/- What stands from call to call in layer 22's laws. -/
namespace Go.Proofs.YtceejjgmepaonaaGreatDoor.Br
open Go.RowKit Go.ChangeShapes EdPure NtPure CutPure SdPure BrPure Cm Sd
@[go_sem] theorem made_g (x y z u : Value) (w : World) : (Instr.field 36 (.agg #[x, y, z, u]) 0).run Tryz.prog w = .ok (.agg #[x, y]) w := by kernel_rfl
def InSt (w : World) (a : Option Addr) (l : List Ed) (W : World) : Prop := Below w.heap.size w W ∧ ReadsE W.heap.size W a l
theorem InSt.keep {w W W' : World} {a : Option Addr} {l : List Ed} (h : InSt w a l W) (hb : Below W.heap.size W W') : InSt w a l W' := ⟨h.1.trans (hb.mono h.1.size), h.2.over hb (Nat.le_refl _)⟩
def TellSt (w : World) (X : Nat) (q : Option Addr) (c N : Nat) (M : List Ed) (g : Nat) (W : World) : Prop :=
  Below w.heap.size w W ∧ TwoAt X W (.int .i64 (N : Int)) (.slice q M.length c) ∧ NetAt (some ⟨g, 0, none⟩) N M W ∧ ReadsE W.heap.size W q M
theorem TellSt.keep {w W W' : World} {X : Nat} {q : Option Addr} {c N : Nat} {M : List Ed} {g : Nat} (h : TellSt w X q c N M g W) (hb : Below W.heap.size W W') : TellSt w X q c N M g W' :=
  ⟨h.1.trans (hb.mono h.1.size), h.2.1.on hb h.2.1.lt, h.2.2.1.over hb, h.2.2.2.over hb (Nat.le_refl _)⟩
def CutAt (Y : Nat) (x : Int) (q : Option Addr) (c : Nat) (L : List Int) (W : World) : Prop := TwoAt Y W (.int .i64 x) (.slice q L.length c) ∧ ReadsL encZ W.heap.size W q L
theorem CutAt.keep {W W' : World} {Y : Nat} {x : Int} {q : Option Addr} {c : Nat} {L : List Int} (h : CutAt Y x q c L W) (hb : Below W.heap.size W W') : CutAt Y x q c L W' := ⟨h.1.on hb h.1.lt, h.2.over hb (Nat.le_refl _)⟩
def GotAt (Z : Nat) (x : Int) (q : Option Addr) (c : Nat) (L : List Int) (z : Int) (W : World) : Prop := ThreeAt Z W (.int .i64 x) (.slice q L.length c) (.int .i64 z) ∧ ReadsL encZ W.heap.size W q L
theorem GotAt.keep {W W' : World} {Z : Nat} {x : Int} {q : Option Addr} {c : Nat} {L : List Int} {z : Int} (h : GotAt Z x q c L z W) (hb : Below W.heap.size W W') : GotAt Z x q c L z W' := ⟨h.1.on hb h.1.lt, h.2.over hb (Nat.le_refl _)⟩
theorem same_true (x : Int) (a b : Option Addr) (c d : Nat) (l : List Int) (hl : l.length ≤ 1000000000) (w : World) (h1 : ReadsL encZ w.heap.size w a l) (h2 : ReadsL encZ w.heap.size w b l) :
    Calls Tryz.prog 11 #[.agg #[.int .i64 x, .slice a l.length c], .agg #[.int .i64 x, .slice b l.length d]] w fun e w' => e = .returned (.bool true) ∧ Below w.heap.size w w' := by
  have h := refSame_any x x a b c d l l hl w h1 h2
  rw [decide_eq_true (rfl : l = l), decide_eq_true (rfl : x = x)] at h
  exact h
theorem lists_same (a a' : Option Addr) (c1 c2 : Nat) (L : List (List Int)) (w : World) (h1 : RowsTold a L w) (h2 : RowsTold a' L w) (hl1 : L.length ≤ 1000000) (hl2 : ∀ l ∈ L, l.length ≤ 1000000) :
    Calls Tryz.prog 13 #[.slice a L.length c1, .slice a' L.length c2] w fun e w' => e = .returned (.bool true) ∧ Below w.heap.size w w' := by
  obtain ⟨M1, h1⟩ := h1
  obtain ⟨M2, h2⟩ := h2
  exact (Ds.lists_true M1 M2 a a' c1 c2 L w h1 h2 hl1 hl2).mono fun _ _ ⟨he, m, hm⟩ => ⟨he, by rw [hm]; exact below_drewN (Below.refl _ _) m⟩
/-- A graph of few edges is merged to few. -/
theorem few_edges {N : Nat} (hN : N ≤ 4096) {l M : List Ed} (hE : errN (N : Int) l = (0, 0)) (hl : l.length ≤ 1000) (hm : mergeE l = some M) : M.length ≤ l.length := by
  have hc : ∀ e ∈ l, chkE (N : Int) e = 0 := by
    have h := congrArg (·.1) hE
    unfold errN at h
    rw [if_neg (by omega), if_neg (by omega)] at h
    exact chkL_good h
  obtain ⟨M', m1, m2, m3⟩ := merged (fun e he => by
    have h := hc e he
    unfold chkE at h
    split at h
    · next h1 => split at h
                 · next h2 => exact ⟨by unfold In; omega, by unfold In; omega, by unfold In; omega⟩
                 · omega
    · omega) hc (by omega)
  obtain rfl := Option.some.inj (m1.symm.trans hm)
  exact m3
end Go.Proofs.YtceejjgmepaonaaGreatDoor.Br
/- An edge by value, a list of edges, as a statement's frame tells of them. -/
namespace Go.Proofs.YtceejjgmepaonaaGreatDoor
open Go.RowKit Go.ChangeShapes Go.WideShapes EdPure
def EdIn (W : World) (a : Option Addr) (l : List Ed) : Prop := InL l ∧ ReadsE W.heap.size W a l
theorem arr3 {α : Type} {cs : Array α} (h : cs.size = 3) : ∃ c0 c1 c2, cs = #[c0, c1, c2] := by
  obtain ⟨l⟩ := cs
  match l, h with
  | [c0, c1, c2], _ => exact ⟨c0, c1, c2, rfl⟩
set_option maxRecDepth 20000 in
theorem open_edge {H : Type} {enc : TypeId × Value → H} {W : World} {base : Nat} {sp : Nat → Bool} {held : Bool} {r : Reach} {b0 : Nat} {v : Value} {d : DataW H} {ps : List MemPlace}
    (hv : Value.okWide Tryz.prog W r b0 51 v) (h : DataW.Trod enc Tryz.prog W base sp held 51 v d ps) :
    ∃ e : Ed, v = encE e ∧ InE e := by
  have hu := Tryz.underlying51
  have hC : Tryz.prog.cellsOf 51 = 3 := by kernel_rfl
  have ci : Tryz.prog.cellsOf 3 = 1 := by kernel_rfl
  have ci2 : Tryz.prog.cellsOf 2 = 1 := by kernel_rfl
  simp only [Value.okWide, hu] at hv
  obtain ⟨cs, rfl, hsz, _⟩ := hv
  obtain ⟨c0, c1, c2, rfl⟩ := arr3 (hsz.trans hC)
  obtain ⟨fuel, hf⟩ := h
  obtain ⟨xs, k, hk, hxy, _, hxl, hfl⟩ := DataW.trod_struct hu hf
  match xs, hxl with
  | [y0, y1, y2], _ =>
    have g0 := hfl 0 _ rfl
    have g1 := hfl 1 _ rfl
    have g2 := hfl 2 _ rfl
    simp [ci, ci2, Value.cells] at g0 g1 g2
    obtain ⟨n0, q0, -, w0⟩ := DataW.trod_int (t := 3) Tryz.underlying3 g0
    obtain ⟨n1, q1, -, w1⟩ := DataW.trod_int (t := 3) Tryz.underlying3 g1
    obtain ⟨n2, q2, -, w2⟩ := DataW.trod_int (t := 2) Tryz.underlying2 g2
    have q0' : c0 = .int .i64 n0 := by simpa using q0
    have q1' : c1 = .int .i64 n1 := by simpa using q1
    have q2' : c2 = .int .i64 n2 := by simpa using q2
    subst q0' q1' q2'
    exact ⟨(n0, n1, n2), rfl, bounds_i64 w0, bounds_i64 w1, bounds_i64 w2⟩
end Go.Proofs.YtceejjgmepaonaaGreatDoor
/- brute's All: all sides of a weight, in order. -/
namespace Go.Proofs.YtceejjgmepaonaaGreatDoor.Bg
open Go.RowKit Go.ChangeShapes BgPure BgRes EdPure NtPure Br
/-- The state of All's variables: the weight that is asked for, and the sides that weigh it so far. -/
def AlAt (w : World) (B S b : Nat) (x : Int) (xs : List Nat) (W : World) : Prop := Below w.heap.size w W ∧ (w.heap.size ≤ B ∧ B < S ∧ S < b ∧ b ≤ W.heap.size) ∧ W.cell? ⟨B, 0, none⟩ = some (.int .i64 x) ∧ GaAt S b xs W
theorem AlAt.keep {w : World} {B S b : Nat} {x : Int} {xs : List Nat} {W W' : World} (h : AlAt w B S b x xs W) (hb : Below W.heap.size W W') : AlAt w B S b x xs W' := by
  obtain ⟨h1, h2, h3, h4⟩ := h
  have hs := hb.size
  exact ⟨h1.trans (hb.mono h1.size), by omega, (hb.cell (World.block_lt_of_cell? W _ h3)).trans h3, h4.keep hb⟩
def AlO (S b : Nat) (k : Nat) : Prop := k = S ∨ b ≤ k
theorem AlAt.turn {w : World} {B S b : Nat} {x : Int} {xs xs' : List Nat} {W W' : World} (h : AlAt w B S b x xs W) (ht : Turn (AlO S b) W W') (h5 : GaAt S b xs' W') : AlAt w B S b x xs' W' := by
  obtain ⟨h1, h2, h3, -⟩ := h
  have hs := ht.size
  have hb : Below w.heap.size W W' := ht.below h1.size (fun k hk => by unfold AlO at hk; omega)
  exact ⟨h1.trans hb, by omega, (World.cell?_of_block (ht.2.2.2.2 B (World.block_lt_of_cell? W _ h3) (by unfold AlO; omega))).trans h3, h5⟩
def AlOut (w : World) (B S b : Nat) (x : Int) (xs : List Nat) (W : World) (e : Ending) (V : World) : Prop := (∃ v, e = .returned v) ∧ AlAt w B S b x xs V ∧ Turn (AlO S b) W V
set_option maxRecDepth 100000 in
set_option maxHeartbeats 4000000 in
theorem all_note (w : World) (B S b : Nat) (x : Int) (M : List Ed) (g : Nat) (xs : List Nat) (hp : xs.length ≤ 1000000) (W : World) (h : AlAt w B S b x xs W) :
    Calls Tryz.prog 31 #[.int .u32 (g : Int), .int .i64 (cG M g), .pointer (some ⟨B, 0, none⟩), .pointer (some ⟨S, 0, none⟩)] W fun e V => AlOut w B S b x (if cG M g = x then xs ++ [g] else xs) W e V := by
  obtain ⟨i0, hi, hz0, hz1, hz2⟩ := info_of info_g
  have H := Lib.hid h
  have c0 := h.2.2.1
  have hl0 := World.block_lt_of_cell? W _ c0
  generalize cG M g = wt at *
  by_cases hx : wt = x
  · rw [if_pos hx]
    have t1 : (wt == x) = true := by simpa using hx
    obtain ⟨v, hv, hrow⟩ := h.2.2.2
    have HV := Lib.hid hv
    have HRow := Lib.hid hrow
    have hl1 := hv.lt
    obtain ⟨c1, f1⟩ := hv
    have hl2 := h.2.1.2.2.2
    clear h hrow hx
    go_enter Tryz.func31, Tryz.ntmps31
    go_wp2_with (first
      | (at_builtin; refine wpList_append_own _ rfl _ _ 66 rfl b 71 i0 (.int .u32 0) 1 4 Tryz.underlying66 hi hz0 hz1 hz2 rfl (by decide) _ _ _ rfl (HRow.out.alloc _) ⟨W.heap.size, 0, none⟩ 1 1 [.int .u32 (g : Int)] rfl rfl one_news (by intro u hu; simp at hu; subst hu; rfl) (by unfold maxLen; omega) (by omega) (by simp; omega) ?_))
    intro v' w3 hown hgrow _
    obtain ⟨g', cap', rfl⟩ := ownsRow_succ hown
    obtain ⟨a1, a2, ⟨c3, f3⟩, a4⟩ := ga_push (x := g) HV.out HRow.out (by have := H.out.2.1; omega) hown hgrow
    have HE := Lib.hid (And.intro (H.out.turn a2 a1) a2)
    clear a1 a2 hown hgrow c1 f1
    go_wp2
    go_end0
    exact ⟨⟨_, rfl⟩, HE.out⟩
  · rw [if_neg hx]
    have t1 : (wt == x) = false := by simpa using hx
    clear h hx
    go_enter Tryz.func31, Tryz.ntmps31
    go_wp2
    go_end0
    exact ⟨⟨_, rfl⟩, H.out, Turn.refl _ _⟩
/-! ### The sort -/
def SortG (xs : List Nat) (q : Option Addr) (w : World) (e : Ending) (w' : World) : Prop :=
  (∃ v, e = .returned v) ∧ ∃ ys : List Nat, ys.Perm xs ∧ ys.Pairwise (· ≤ ·) ∧ ReadsL encG w'.heap.size w' q ys ∧ ∀ B, B ≤ w.heap.size → (∀ z, q = some z → B ≤ z.block) → Below B w w'
theorem sort_some (blk cap : Nat) (xs : List Nat) (hl : xs.length ≤ 1000000) (w : World) (hbk : blk < w.heap.size) (hc : ∀ i, (h : i < xs.length) → w.cell? ⟨blk, i, none⟩ = some (encG xs[i]) ∧ w.frozen? ⟨blk, i, none⟩ = false) :
    Calls Tryz.prog 32 #[.slice (some ⟨blk, 0, none⟩) xs.length cap] w fun e w' => SortG xs (some ⟨blk, 0, none⟩) w e w' := by
  have hH : Go.Sort.Holds Gk.encU w blk 0 xs.toArray := fun j hj => by
    have hj' : j < xs.length := by simpa using hj
    have := hc j hj'
    rw [Nat.zero_add]
    refine ⟨this.1.trans ?_, this.2⟩
    simp [encG, Gk.encU, hj']
  have h := Gk.sort_all blk 0 cap xs.toArray w (by simpa using hl) hH hbk
  rw [show xs.toArray.size = xs.length by simp] at h
  refine h.mono ?_
  rintro e w' ⟨rfl, d, h1, h2, h3⟩
  have hsz : d.size = xs.length := by simpa using h2.1
  refine ⟨⟨_, rfl⟩, d.toList, ?_, ?_, ?_, fun B hB hq => (h1.below hbk).mono (hq _ rfl)⟩
  · have hp := h2.2.2
    have e1 : d.extract 0 xs.length = d := by rw [← hsz]; simp
    have e2 : xs.toArray.extract 0 xs.length = xs.toArray := by simp
    rw [e1, e2] at hp
    simpa using hp
  · rw [List.pairwise_iff_getElem]
    intro i j hi hj hij
    have hi' : i < d.size := by simpa using hi
    have hj' : j < d.size := by simpa using hj
    have := h3 i j (Nat.zero_le _) hij (by rw [← hsz]; exact hj')
    unfold Gk.ltB at this
    have h4 := of_decide_eq_false this
    rw [getElem!_pos d i hi', getElem!_pos d j hj'] at h4
    simp only [Array.getElem_toList]
    omega
  · have hh := h1.holds hH hbk (by simpa using hsz)
    refine Or.inr ⟨blk, 0, rfl, Nat.lt_of_lt_of_le hbk h1.size, fun i hi => ?_⟩
    have hi' : i < d.size := by simpa using hi
    rw [(hh i hi').1, getElem!_pos d i hi']
    simp [encG, Gk.encU]
theorem ins_none (w : World) : Calls Tryz.prog 66 #[.slice none 0 0, .int .i64 0, .int .i64 0] w fun e w' => e = .returned (.tuple #[]) ∧ w' = w := by
  go_enter Tryz.func66, Tryz.ntmps66
  go_wp2
  go_loopw [6] (fun i wr => i = .int .i64 1 ∧ wr = w) (fun _ _ => 0)
  case atStart => exact ⟨rfl, rfl⟩
  case round =>
    obtain ⟨rfl, rfl⟩ := hrel
    go_wp2
    go_end0
    exact ⟨rfl, rfl⟩
theorem pdq_none (k : Nat) (w : World) : Calls Tryz.prog 54 #[.slice none 0 0, .int .i64 0, .int .i64 0, .int .i64 k] w fun e w' => e = .returned (.tuple #[]) ∧ w' = w := by
  have HI := Lib.hid (ins_none w)
  go_enter Tryz.func54, Tryz.ntmps54
  go_wp2
  go_loopw [1, 2] (fun va vb wr => va = .int .i64 0 ∧ vb = .int .i64 0 ∧ wr = w) (fun _ _ _ => 0)
  case atStart => exact ⟨rfl, rfl, rfl⟩
  case round =>
    obtain ⟨rfl, rfl, rfl⟩ := hrel
    go_wp2_with (first | (go_at_call 66; refine HI.out.mono ?_; rintro e w' ⟨rfl, rfl⟩))
    exact bodyPost_ret (results_none rfl _ _ _) rfl ⟨rfl, rfl⟩
theorem sort_none (w : World) : Calls Tryz.prog 32 #[.slice none 0 0] w fun e w' => SortG [] none w e w' := by
  obtain ⟨k, hk, hlen⟩ := Gk.len_any 0 (by omega) w
  have HL := Lib.hid hlen
  have HP := Lib.hid (pdq_none k w)
  clear hlen
  go_enter Tryz.func32, Tryz.ntmps32
  go_wp2_with (first
    | (go_at_call 55; refine HL.out.mono ?_; rintro e w' ⟨rfl, rfl⟩)
    | (go_at_call 54; refine HP.out.mono ?_; rintro e w' ⟨rfl, rfl⟩))
  go_end0
  exact ⟨⟨_, rfl⟩, [], List.Perm.refl _, List.Pairwise.nil, ReadsL.nil _ _ _ _, fun B hB _ => (Below.refl _ _).mono hB⟩
theorem sort_any {b : Nat} (xs : List Nat) (hl : xs.length ≤ 1000000) (w : World) (q : Option Addr) (cap : Nat) (h : w.ownsRow b 71 1 (.slice q xs.length cap) xs.length (xs.map encG)) :
    Calls Tryz.prog 32 #[.slice q xs.length cap] w fun e w' => SortG xs q w e w' := by
  obtain ⟨h1, ⟨h2, h3⟩ | ⟨g, c, cur, h3, h4, h5, h6, h7, h8, h9⟩⟩ := h
  · have hx : xs = [] := List.length_eq_zero_iff.1 h3
    subst hx
    cases h2
    exact sort_none w
  · cases h3
    have hg : g < w.heap.size := (Array.getElem?_eq_some_iff.1 h5).1
    refine sort_some g cap xs hl w hg fun i hi => ⟨?_, by simp [World.frozen?, h5]⟩
    have hc : cur.toList[i]? = some (encG xs[i]) := by
      have e1 : (cur.toList.take (xs.length * 1))[i]? = (xs.map encG)[i]? := by rw [h9]
      rw [List.getElem?_take, if_pos (by omega), List.getElem?_map, List.getElem?_eq_getElem hi] at e1
      exact e1
    have hc2 : cur[i]? = some (encG xs[i]) := by simpa using hc
    simp [World.cell?, h5, hc2]
/-! ### The lists -/
/-- All sides are listed, one by one: the first k of them. -/
def LsAt (L k : Nat) (ys : List Nat) (W : World) : Prop :=
  L < W.heap.size ∧ ∀ i (_ : i < ys.length), W.frozen? ⟨L, i, none⟩ = false ∧ (k ≤ i → W.cell? ⟨L, i, none⟩ = some (.slice none 0 0)) ∧ (i < k → ∃ q c, W.cell? ⟨L, i, none⟩ = some (.slice q (grpL ys[i]).length c) ∧ ReadsL encZ W.heap.size W q (grpL ys[i]) ∧ ∀ z, q = some z → L < z.block)
theorem LsAt.keep {L k : Nat} {ys : List Nat} {W W' : World} (h : LsAt L k ys W) (hb : Below W.heap.size W W') : LsAt L k ys W' := by
  have hs := hb.size
  refine ⟨by have := h.1; omega, fun i hi => ?_⟩
  obtain ⟨h1, h2, h3⟩ := h.2 i hi
  refine ⟨(hb.frozen (p := ⟨L, i, none⟩) h.1).trans h1, fun hk => (hb.cell (p := ⟨L, i, none⟩) h.1).trans (h2 hk), fun hk => ?_⟩
  obtain ⟨q, c, a1, a2, a3⟩ := h3 hk
  exact ⟨q, c, (hb.cell (p := ⟨L, i, none⟩) h.1).trans a1, a2.over hb (Nat.le_refl _), a3⟩
theorem LsAt.start (ys : List Nat) (W : World) (T : TypeId) : LsAt W.heap.size 0 ys (W.alloc (.cells (madeCells #[.slice none 0 0] ys.length) T)) := by
  have h := rowIs_made W (.slice none 0 0) ys.length T
  refine ⟨by simp, fun i hi => ?_⟩
  obtain ⟨h1, h2⟩ := h i (by simpa using hi)
  refine ⟨h2, fun _ => h1.trans (by simp), fun hk => by omega⟩
theorem LsAt.put {L k : Nat} {ys : List Nat} {W W' : World} (h : LsAt L k ys W) (hb : Below W.heap.size W W') (hk : k < ys.length) {q : Option Addr} {c : Nat} (hr : ReadsL encZ W'.heap.size W' q (grpL ys[k])) (hq : ∀ z, q = some z → W.heap.size ≤ z.block) :
    LsAt L (k + 1) ys (W'.setCell ⟨L, k, none⟩ (.slice q (grpL ys[k]).length c)) := by
  have hL := h.1
  obtain ⟨h1, h2⟩ := h.keep hb
  refine ⟨by simpa using h1, fun i hi => ?_⟩
  obtain ⟨a1, a2, a3⟩ := h2 i hi
  have hqL : ∀ z, q = some z → z.block ≠ L := fun z hz => by have := hq z hz; omega
  have hcur : W'.cell? ⟨L, k, none⟩ = some (.slice none 0 0) := (h2 k hk).2.1 (Nat.le_refl k)
  refine ⟨by rw [World.frozen?_setCell]; exact a1, fun hki => ?_, fun hki => ?_⟩
  · exact (World.cell?_setCell_other _ ⟨L, k, none⟩ ⟨L, i, none⟩ _ (fun e => by have := congrArg Addr.off e; simp at this; omega)).trans (a2 (by omega))
  · by_cases e : i = k
    · subst e
      exact ⟨q, c, World.cell?_setCell_same _ _ _ hcur, reads_ne hr hqL _, fun z hz => by have := hq z hz; omega⟩
    · obtain ⟨q', c', b1, b2, b3⟩ := a3 (by omega)
      exact ⟨q', c', (World.cell?_setCell_other _ ⟨L, k, none⟩ ⟨L, i, none⟩ _ (fun e2 => by have := congrArg Addr.off e2; simp at this; omega)).trans b1, reads_ne b2 (fun z hz => by have := b3 z hz; omega) _, b3⟩
theorem LsAt.rows {L : Nat} {ys : List Nat} {W : World} {B : Nat} (h : LsAt L ys.length ys W) (hB : B ≤ L) : RowsAt B W (some ⟨L, 0, none⟩) (ys.map grpL) := by
  refine Or.inr ⟨L, 0, rfl, hB, h.1, fun i l hi => ?_⟩
  obtain ⟨hi2, rfl⟩ := List.getElem?_eq_some_iff.1 hi
  have hiN : i < ys.length := by simpa using hi2
  obtain ⟨q, c, a1, a2, a3⟩ := (h.2 i hiN).2.2 hiN
  rw [Nat.zero_add, List.getElem_map]
  exact ⟨q, c, a1, a2, fun z hz => by have := a3 z hz; omega⟩
theorem info_l : (Tryz.prog.info? 28).map (fun i => (i.zero, i.size, i.bytes)) = some (some (.slice none 0 0), 1, 24) := by kernel_rfl
set_option maxRecDepth 100000 in
set_option maxHeartbeats 8000000 in
theorem brAll_any (p : Option Addr) (N : Nat) (M : List Ed) (_hN : N ≤ 4096) (hG : GoodN N M) (hM : M.length ≤ 100000) (x : Int) (w : World) (h : NetAt p N M w) (hT : Tab w) :
    Calls Tryz.prog 10 #[.pointer p, .int .i64 x] w fun e w' => RowsE (lsA N M x) (smallE (N : Int)) w e w' := by
  have hA : Below w.heap.size w (w.alloc (.cells #[.int .i64 x] 2)) := (Below.refl _ _).alloc (Nat.le_refl _) _
  have HNum := Lib.hid (num_any p N M _ (h.over hA))
  have HNet := Lib.hid h
  have HTab := Lib.hid hT
  have HB0 := Lib.hid hA
  have hcx := (CellAt.new w (.int .i64 x) 2).1
  have hcl : w.heap.size < (w.alloc (.cells #[.int .i64 x] 2)).heap.size := by simp
  have HW := Lib.hid (fun W => wrongSize_any (N : Int) W)
  clear h hT hA
  by_cases hk : smallE (N : Int) = 0
  · obtain ⟨h2, h20⟩ := small_zero.1 hk
    have HAll := Lib.hid (fun S => all_is (M := M) h2 h20 x (S := S))
    have HG := Lib.hid hG
    have h19 : 2 ^ (N - 1) ≤ 2 ^ 19 := Nat.pow_le_pow_right (by decide) (by omega)
    have hlen : ∀ i, i ≤ 2 ^ (N - 1) - 1 → (alF M x i).length ≤ 1000000 := fun i hi => by have := alF_len M x i; omega
    have HLen := Lib.hid hlen
    rw [hk]
    rw [hk] at HW
    have hmf : ∀ (w : World) (x y : Value), (Instr.makeFunc (.func 31) #[] #[x, y]).run Tryz.prog w = .ok (.func (.func 31) #[] #[x, y]) w := fun w x y => rfl
    clear hk hG h19 hlen
    go_enter Tryz.func10, Tryz.ntmps10
    go_wp2_with fail
    generalize w.alloc (.cells #[.int .i64 x] 2) = W0 at *
    refine HNum.out.mono ?_
    rintro e w1 ⟨rfl, hb1⟩
    have HB1 := Lib.hid (HB0.out.trans (hb1.mono HB0.out.size))
    have HC1 := Lib.hid ((hb1.cell (p := ⟨w.heap.size, 0, none⟩) hcl).trans hcx)
    have HL1 : Hid (w.heap.size < w1.heap.size) := Lib.hid (Nat.lt_of_lt_of_le hcl hb1.size)
    clear hb1 HNum hcx hcl HB0
    go_wp2_with (first | (go_at_call 19; refine (HW.out _).mono ?_; rintro e w' ⟨rfl, rfl⟩))
    have hst : ∀ V, Below (w1.alloc (.cells #[.slice none 0 0] 66)).heap.size (w1.alloc (.cells #[.slice none 0 0] 66)) V → AlAt w w.heap.size w1.heap.size V.heap.size x [] V := fun V hb => by
      have b1 : Below w1.heap.size w1 (w1.alloc (.cells #[.slice none 0 0] 66)) := (Below.refl _ _).alloc (Nat.le_refl _) _
      have b12 := b1.trans (hb.mono b1.size)
      have hs := hb.size
      rw [World.size_alloc] at hs
      exact ⟨HB1.out.trans (b12.mono HB1.out.size), ⟨Nat.le_refl _, HL1.out, by omega, Nat.le_refl _⟩, (b12.cell (p := ⟨w.heap.size, 0, none⟩) HL1.out).trans HC1.out, .slice none 0 0, (CellAt.new w1 (.slice none 0 0) 66).keep hb, World.ownsRow_nil _ _ _ _⟩
    have HSt := Lib.hid hst
    have HBs : Hid (Below w.heap.size w (w1.alloc (.cells #[.slice none 0 0] 66)) ∧ (w1.alloc (.cells #[.slice none 0 0] 66)).heap.size = w1.heap.size + 1) := Lib.hid ⟨HB1.out.alloc HB1.out.size _, by simp⟩
    clear hst
    go_wp2_with fail
    generalize w1.alloc (.cells #[.slice none 0 0] 66) = W1 at *
    generalize w1.heap.size = S at *
    refine (through_any p N M h20 HG.out (by omega) w W1 HNet.out HTab.out 31 #[.pointer (some ⟨w.heap.size, 0, none⟩), .pointer (some ⟨S, 0, none⟩)] (enters_of Tryz.func31 (by kernel_rfl) rfl)
      (fun b i V => AlAt w w.heap.size S b x (alF M x i) V ∧ S + 1 ≤ b) (fun V hb => ⟨HSt.out V hb, by have := hb.size; have := HBs.out.2; omega⟩) HBs.out.1 (fun b i V hJ => hJ.1.1) (fun b i V V' hJ hb => ⟨hJ.1.keep hb, hJ.2⟩)
      (fun b i V hi hJ => by
        refine (all_note w w.heap.size S b x M (gaG (i + 1)) (alF M x i) (HLen.out i (by omega)) V hJ.1).mono ?_
        rintro e V' ⟨h1, h2, h3⟩
        refine ⟨h1, ⟨?_, hJ.2⟩, h3.size, fun k k1 k2 => h3.2.2.2.2 k (by have := hJ.1.2.1; omega) (fun hh => by have := HBs.out.2; unfold AlO at hh; omega)⟩
        rw [alF_succ]
        exact h2)).mono ?_
    rintro e w2 ⟨⟨v2, rfl⟩, b, hal, -⟩
    have HAl := Lib.hid hal
    obtain ⟨u, hu, hrow⟩ := hal.2.2.2
    obtain ⟨q, cap, rfl⟩ := owns_form hrow
    have HU := Lib.hid hu
    have HRow := Lib.hid hrow
    have hl2 := hu.lt
    have c2 := hu.1
    have HXs := Lib.hid (fun ys h1 h2 => HAll.out ys h1 h2)
    have hlen2 := HLen.out (2 ^ (N - 1) - 1) (Nat.le_refl _)
    have HXlt : Hid (∀ y ∈ alF M x (2 ^ (N - 1) - 1), y < 4294967296) := Lib.hid (fun y hy => by
      have h1 := gL_ltN (N := N) (by omega) (Nat.le_refl _) (List.mem_filter.1 hy).1
      have h2 : 2 ^ N ≤ 2 ^ 20 := Nat.pow_le_pow_right (by decide) h20
      omega)
    clear hal hu hrow HSt HLen HAll
    generalize alF M x (2 ^ (N - 1) - 1) = xs at *
    go_wp2_with fail
    refine (sort_any xs hlen2 w2 q cap HRow.out).mono ?_
    rintro e w3 ⟨⟨v3, rfl⟩, ys, hp, hs, hr, hbe⟩
    have hyl : ys.length = xs.length := hp.length_eq
    have hqb : ∀ z, q = some z → S + 1 ≤ z.block := fun z hz => by
      have := (HRow.out.lt z.block (by rw [hz]; rfl)).1
      have := HAl.out.2.1
      omega
    have hb3 : Below (S + 1) w2 w3 := hbe (S + 1) (by have := HAl.out.2.1; omega) hqb
    have HB3 := Lib.hid (HAl.out.1.trans (hb3.mono (by have := HAl.out.2.1; omega)))
    have c3 := (hb3.cell (p := ⟨S, 0, none⟩) (Nat.lt_succ_self S)).trans c2
    have hl3 : S < w3.heap.size := Nat.lt_of_lt_of_le hl2 hb3.size
    have HR3 := Lib.hid hr
    have HY := Lib.hid (HXs.out ys hp hs)
    have HLt : Hid (∀ y ∈ ys, y < 4294967296) := Lib.hid (fun y hy => HXlt.out y (hp.mem_iff.1 hy))
    have HTab3 := Lib.hid (tab_on HTab.out HB3.out (Nat.le_refl _))
    rw [← hyl] at hlen2 c3 ⊢
    have hmk := makeRow (P := Tryz.prog) (T := 43) (E := 28) (z := .slice none 0 0) (c := 24) Tryz.underlying43 info_l (by decide) rfl ys.length (by omega) w3
    have hA4 : Below w3.heap.size w3 (w3.alloc (.cells (madeCells #[.slice none 0 0] ys.length) 28)) := (Below.refl _ _).alloc (Nat.le_refl _) _
    have HS4 := Lib.hid (And.intro hA4 (LsAt.start ys w3 28))
    have c4 := (hA4.cell (p := ⟨S, 0, none⟩) hl3).trans c3
    have hl4 : S < (w3.alloc (.cells (madeCells #[.slice none 0 0] ys.length) 28)).heap.size := by simp; omega
    clear hp hs hr hbe hb3 hqb c2 hl2 HRow HU HXs HAl hA4 HXlt hyl
    go_upto_region 8 with fail
    generalize w3.alloc (.cells (madeCells #[.slice none 0 0] ys.length) 28) = W4 at *
    have HLe : Hid (w.heap.size ≤ w3.heap.size) := Lib.hid HB3.out.size
    generalize hLL : w3.heap.size = L at *
    go_wp2_with fail
    clear c3 c4 hl3 hl4 hmk
    go_loopw [27] (fun i wr => ∃ k : Nat, i = .int .i64 k ∧ k ≤ ys.length ∧ Hid (Below L w3 wr ∧ LsAt L k ys wr)) (fun i _ => ys.length - (intOf i).toNat)
    case atStart => exact ⟨0, rfl, Nat.zero_le _, HS4⟩
    case round =>
      clear HS4
      obtain ⟨k, rfl, hk, HS⟩ := hrel
      have i0 : (0 : Int) ≤ (k : Int) := by omega
      by_cases hlt : k < ys.length
      · have i1 : (k : Int) < (ys.length : Int) := by omega
        obtain ⟨bq, off, rfl, hbq, hck⟩ := (HR3.out.on HS.out.1).at hlt
        unfold encG at hck
        have hbw : bq < wr.heap.size := by have := HS.out.2.1; omega
        have hy32 := HLt.out ys[k] (List.getElem_mem hlt)
        have HLst := Lib.hid (fun W hT => list_any ys[k] hy32 W hT)
        have HPut := Lib.hid (fun W' (hb : Below wr.heap.size wr W') q c hr hq => HS.out.2.put (q := q) (c := c) hb hlt hr hq)
        have HTw : Hid (Tab wr) := Lib.hid (tab_on HTab3.out HS.out.1 (by rw [hLL]; exact Nat.le_refl _))
        have hLl := HS.out.2.1
        generalize ys[k] = y at *
        go_wp2_with fail
        refine (HLst.out _ HTw.out).mono ?_
        rintro e w5 ⟨q5, c5, rfl, hr5, hq5, hb5⟩
        have HN := Lib.hid (And.intro ((HS.out.1.trans (hb5.mono (Nat.le_of_lt hLl))).setCell (p := ⟨L, k, none⟩) (Nat.le_refl L) (.slice q5 (grpL y).length c5)) (HPut.out w5 hb5 q5 c5 hr5 hq5))
        obtain ⟨g1, g2, -⟩ := (HS.out.2.keep hb5).2 k hlt
        have g3 := g2 (Nat.le_refl k)
        have hL5 : L < w5.heap.size := Nat.lt_of_lt_of_le hLl hb5.size
        clear hr5 hq5 hb5 g2 HPut HLst
        go_wp2
        go_roundw
        case rel => exact ⟨k + 1, by go_num, by omega, HN⟩
        case measure => (simp [intOf] <;> omega)
      · have hke : k = ys.length := by omega
        subst hke
        have i1 : ¬ ((ys.length : Nat) : Int) < (ys.length : Int) := by omega
        have HE := Lib.hid (And.intro (HB3.out.trans (HS.out.1.mono HLe.out)) (HS.out.2.rows HLe.out))
        go_wp2
        go_ret2
        refine ⟨HE.out.1, some ⟨L, 0, none⟩, ys.length, w.heap.size, ?_, by rw [← HY.out]; exact HE.out.2⟩
        rw [← HY.out, List.length_map]
        rfl
  · have t : (smallE (N : Int) != 0) = true := by simpa using hk
    have e1 : lsA N M x = [] := if_neg hk
    rw [e1]
    clear hk e1 hG HTab
    generalize smallE (N : Int) = z at *
    go_enter Tryz.func10, Tryz.ntmps10
    go_wp2_with fail
    generalize w.alloc (.cells #[.int .i64 x] 2) = W0 at *
    refine HNum.out.mono ?_
    rintro e w1 ⟨rfl, hb1⟩
    have HB1 := Lib.hid (HB0.out.trans (hb1.mono HB0.out.size))
    clear hb1 HNum HNet
    go_wp2_with (first | (go_at_call 19; refine (HW.out _).mono ?_; rintro e w' ⟨rfl, rfl⟩))
    go_ret2
    exact ⟨HB1.out, none, 0, 0, rfl, Or.inl rfl⟩
end Go.Proofs.YtceejjgmepaonaaGreatDoor.Bg
/- The library's table of de Bruijn, as the rows of this seat list it: what the condition gives a walk, and a world that meets it. -/
namespace Go.Proofs.YtceejjgmepaonaaGreatDoor
open Go.ChangeShapes Go.WideShapes Go.ChangeAt Go.RowKit
theorem own : ownKnob Tryz.prog.godebug = none := by kernel_rfl
theorem tabName : Tryz.prog.globalNamed (Rows.bruteLeastRow.laid.map (·.1)).head! = some 0 := by kernel_rfl
theorem tab_of_laid {W : World} (h : laidMetH Tryz.prog Rows.bruteLeastRow.laid W) : TabAt 0 Lib.deBruijn32tab W := by
  have h' : laidMet Tryz.prog ((_, Lib.tabData .u8 (Lib.deBruijn32tab.map fun n : Nat => (n : Int))) :: []) W := h
  have hT := Lib.tabIs_of_head (t := 124) (n := 32) tabName (by kernel_rfl) Tryz.underlying124 Tryz.underlying5 (by kernel_rfl) (by kernel_rfl) h'
  intro j hj
  have := hT.cell tabName j (by simpa using hj)
  rw [this]
  simp [List.getD_eq_getElem?_getD, hj]
/-- The settled world, the table's cells laid. -/
def laidWorld (P : Program) (os : Os) : World :=
  { World.holding P os ⟨#[], #[], []⟩ with heap := (World.holding P os ⟨#[], #[], []⟩).heap.setIfInBounds 0 (.cells (Lib.deBruijn32tab.map fun z : Nat => Value.int .u8 (z : Int)).toArray 124) }
theorem laid_met (os : Os) (args : Array Value) : laidMetH Tryz.prog Rows.bruteLeastRow.laid ((laidWorld Tryz.prog os).forCall (fun _ _ => 0) ⟨#[], args, []⟩).memory := by
  have h : laidMet Tryz.prog Rows.bruteLeastRow.laid ((laidWorld Tryz.prog os).forCall (fun _ _ => 0) ⟨#[], args, []⟩).memory := laidMet_of_run' 8 (by kernel_rfl) (by kernel_rfl)
  exact h
end Go.Proofs.YtceejjgmepaonaaGreatDoor
