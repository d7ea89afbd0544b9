/- A list of pairs of numbers ([][2]int) that came in, as a statement's frame tells of it. -/
import Derived.Test.YtnnicfjlakpghaaList
import Derived.Deep.SlicePairs
import Derived.WideShapes
import Derived.ChangeReads
namespace Go.Proofs.Ytnnicfjlakpghaa
open Go.RowKit Go.ChangeShapes
/-- A list of pairs in memory. -/
def ReadsO (N : Nat) (w : World) (a : Option Addr) (l : List (Int × Int)) : Prop :=
  l = [] ∨ ∃ b off, a = some ⟨b, off, none⟩ ∧ b < N ∧ ∀ i (h : i < l.length), w.cell? ⟨b, off + i * 2, none⟩ = some (.int .i64 l[i].1) ∧ w.cell? ⟨b, off + i * 2 + 1, none⟩ = some (.int .i64 l[i].2)
theorem ReadsO.at {w W : World} {a : Option Addr} {l : List (Int × Int)} (h : ReadsO w.heap.size w a l) (hb : Below w.heap.size w W) {k : Nat} (hk : k < l.length) :
    ∃ b off, a = some ⟨b, off, none⟩ ∧ b < w.heap.size ∧ W.cell? ⟨b, off + k * 2, none⟩ = some (.int .i64 l[k].1) ∧ W.cell? ⟨b, off + k * 2 + 1, none⟩ = some (.int .i64 l[k].2) := by
  rcases h with h | ⟨b, off, ha, hN, hc⟩
  · subst h; simp at hk
  · exact ⟨b, off, ha, hN, (hb.cell (p := ⟨b, off + k * 2, none⟩) hN).trans (hc k hk).1, (hb.cell (p := ⟨b, off + k * 2 + 1, none⟩) hN).trans (hc k hk).2⟩
def asI : Value → Int
  | .int _ n => n
  | _ => 0
open Go.WideShapes in
/-- The cells of an array of two numbers. -/
theorem two_ints {H : Type} {enc : TypeId × Value → H} {P : Program} {w : World} {base : Nat} {spare : Nat → Bool} {held : Bool} {t e : TypeId} {fuel : Nat} {v0 v1 : Value} {x : DataW H × List MemPlace}
    (hu : P.underlying t = some (.array 2 e)) (he : P.underlying e = some (.int .i64)) (hC : P.cellsOf t = 2) (hc : P.cellsOf e = 1) (hf : DataW.trod enc P w base spare held fuel t [v0, v1] = some x) : v0 = .int .i64 (asI v0) ∧ v1 = .int .i64 (asI v1) := by
  cases fuel with
  | zero => simp [DataW.trod] at hf
  | succ m =>
    rw [DataW.trod_step] at hf
    unfold DataW.trodStep at hf
    simp only [hu, hC, hc] at hf
    rw [if_pos (show [v0, v1].length = 2 from rfl), Option.map_eq_some_iff] at hf
    obtain ⟨ys, hy, -⟩ := hf
    rw [show List.range 2 = [0, 1] from rfl, List.mapM_cons, List.mapM_cons] at hy
    simp only [bind, Option.bind_eq_some_iff, pure, Option.some.injEq] at hy
    obtain ⟨y0, h0, ys1, ⟨y1, h1, -⟩, -⟩ := hy
    obtain ⟨n0, e0, -, w0⟩ := DataW.trod_int (t := e) he h0
    obtain ⟨n1, e1, -, w1⟩ := DataW.trod_int (t := e) he h1
    have e0' : v0 = .int .i64 n0 := by simpa using e0
    have e1' : v1 = .int .i64 n1 := by simpa using e1
    rw [e0', e1']
    exact ⟨rfl, rfl⟩
open Go.WideShapes in
theorem open_pairsI {H : Type} {enc : TypeId × Value → H} {W : World} {base fuel : Nat} {a : Option Addr} {len cap : Nat} {x : DataW H × List MemPlace}
    (hf : DataW.trod enc Try.prog W base (fun _ => true) true fuel 22 (Value.slice a len cap).cells.toList = some x) :
    ∃ l : List (Int × Int), l.length = len ∧ ReadsO W.heap.size W a l ∧ l.length ≤ maxLen := by
  rcases Go.Deep.open_slice Try.underlying22 hf with ⟨hcs, _⟩ | ⟨y, ln, c, m, n, D, Pl, hcs, hb, hl, hm, hmm, _, hx⟩
  · simp [Value.cells] at hcs
    obtain ⟨rfl, rfl, rfl⟩ := hcs
    exact ⟨[], rfl, Or.inl rfl, Nat.zero_le _⟩
  · simp [Value.cells] at hcs
    obtain ⟨rfl, rfl, rfl⟩ := hcs
    have hmc : m = cap := by simpa using hmm
    subst hmc
    have hC : Try.prog.cellsOf 30 = 2 := by kernel_rfl
    have hc : Try.prog.cellsOf 3 = 1 := by kernel_rfl
    have each : ∀ i, i < m → ∃ q : Int × Int, W.cell? (y.add (i * 2)) = some (.int .i64 q.1) ∧ W.cell? (y.add (i * 2 + 1)) = some (.int .i64 q.2) := by
      intro i hi
      obtain ⟨cs', h1, h2⟩ := hx i hi
      rw [hC] at h1
      obtain ⟨_, hlen, hcell⟩ := World.cells?_some h1
      match cs', hlen with
      | [v0, v1], _ =>
        obtain ⟨e0, e1⟩ := two_ints Try.underlying30 Try.underlying3 hC hc h2
        have g0 := hcell 0 (by omega)
        have g1 := hcell 1 (by omega)
        rw [Go.Deep.add_add] at g0 g1
        refine ⟨(asI v0, asI v1), ?_, ?_⟩
        · rw [← e0]; simpa using g0
        · rw [← e1]; simpa using g1
    obtain ⟨q, hq⟩ := Go.Deep.choose_lt each
    refine ⟨(List.range len).map q, by simp, ?_, by simp; omega⟩
    by_cases h0 : len = 0
    · left; simp [h0]
    · right
      have hz := (hq 0 (by omega)).1
      obtain ⟨b, off, spot⟩ := y
      have hspot : spot = none := by simpa [Addr.add] using World.cell?_spot hz
      subst hspot
      refine ⟨b, off, rfl, World.block_lt_of_cell? W _ hz, fun i h => ?_⟩
      have hil : i < len := by simpa using h
      obtain ⟨g0, g1⟩ := hq i (by omega)
      rw [addr_add] at g0 g1
      rw [List.getElem_map, List.getElem_range]
      exact ⟨g0, g1⟩
end Go.Proofs.Ytnnicfjlakpghaa
