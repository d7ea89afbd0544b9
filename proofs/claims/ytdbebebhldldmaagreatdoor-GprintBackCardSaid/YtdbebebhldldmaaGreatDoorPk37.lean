/- Texts that the laws of this seat stand on, part 37. -/
import Derived.Test.YtdbebebhldldmaaGreatDoorPk36
import Derived.Test.YtdbebebhldldmaaGreatDoorPk10
import Derived.WideShapes
import Derived.ChangeReads
/- The document's rows of a graph (layer 18). -/
namespace Go.Proofs.YtdbebebhldldmaaGreatDoor.Gp
open Go.RowKit Go.ChangeShapes EdPure DecPure WordPure GrPure GpPure NtPure Str
theorem row_in {n : Nat} {M : List Ed} (h : GoodN n M) (u v : Int) : In (weiE M u v) := by
  have h1 := wei_rng h u v
  have h2 := h.2.2
  unfold In
  omega
theorem rows_room {n : Nat} (hn : n ≤ 4096) {M : List Ed} (h : GoodN n M) {k : Nat} (hk : k ≤ n) : (rowsP n M k).length ≤ 400000000 := by
  have h1 := rows_size (n := n) (row_in h) k
  have h2 : (21 * n + 1) * k ≤ (21 * 4096 + 1) * 4096 := Nat.mul_le_mul (by omega) (by omega)
  omega
set_option maxRecDepth 100000 in
set_option maxHeartbeats 4000000 in
theorem refRows_any (n : Nat) (hn : n ≤ 4096) (a : Option Addr) (c : Nat) (M : List Ed) (hl : M.length ≤ 100000) (hG : GoodN n M) (w : World) (hR : ReadsE w.heap.size w a M) :
    Calls Tryz.prog 14 #[.agg #[.int .i64 (n : Int), .slice a M.length c]] w fun e w' => e = .returned (.string ⟨(rowsP n M n).toArray⟩) ∧ Below w.heap.size w w' := by
  have HG := Lib.hid hG
  have HS0 : Hid (BoxSt w w.heap.size n a c M (w.alloc (.cells #[.int .i64 (n : Int), .slice a M.length c] 30))) := Lib.hid (BoxSt.start hR)
  obtain ⟨ti, hi1, hi2, hi3, hi4⟩ := info_parts (show (Tryz.prog.info? 2).map (fun i => (i.zero, i.size, i.bytes)) = some (some (.int .i64 0), 1, 8) by kernel_rfl)
  clear hG hR
  go_enter Tryz.func14, Tryz.ntmps14
  go_wp2_with fail
  generalize w.alloc (.cells #[.int .i64 (n : Int), .slice a M.length c] 30) = W0 at *
  go_loopw [3, 4] (fun t i wr => ∃ (k : Nat) (T : ByteArray), i = .int .i64 k ∧ k ≤ n ∧ t = .string T ∧ Hid (T = ⟨(rowsP n M k).toArray⟩) ∧ Hid (BoxSt w w.heap.size n a c M wr)) (fun _ i _ => n - (intOf i).toNat)
  case atStart => exact ⟨0, _, rfl, Nat.zero_le _, rfl, Lib.hid rfl, HS0⟩
  case round =>
    obtain ⟨k, T, rfl, hk, rfl, HT, HF⟩ := hrel
    have t1 : T.size ≤ 400000000 := by rw [HT.out, size_mk]; exact rows_room hn HG.out hk
    obtain ⟨c0, c1, -, -⟩ := HF.out.2.1
    by_cases hlt : k < n
    · have i1 : (k : Int) < (n : Int) := by omega
      obtain ⟨W1, hW1⟩ : ∃ W1, W1 = wr := ⟨_, rfl⟩
      subst hW1
      have HG0 : Hid (GrowRel encZ 2 W1 (rowL M (k : Int) 0) (.slice none 0 0) W1) := Lib.hid (GrowRel.start _ _ _)
      go_wp2
      clear c0 c1 HS0
      go_loopw [5, 6] (fun s i wr => ∃ j : Nat, i = .int .i64 j ∧ j ≤ n ∧ Hid (GrowRel encZ 2 W1 (rowL M (k : Int) j) s wr)) (fun _ i _ => n - (intOf i).toNat)
      case atStart => exact ⟨0, rfl, Nat.zero_le _, HG0⟩
      case round =>
        clear HG0
        obtain ⟨j, rfl, hj, HK⟩ := hrel
        have HF1 := Lib.hid (HF.out.keep HK.out.1)
        obtain ⟨c0, c1, -, -⟩ := HF1.out.2.1
        have hll := row_len M (k : Int) j
        by_cases hlt2 : j < n
        · have i2 : (j : Int) < (n : Int) := by omega
          have HC := Lib.hid (refWeight_any (n : Int) a c M (by omega) (k : Int) (j : Int) wr HF1.out.2.2)
          have HU : Hid (rowL M (k : Int) (j + 1) = rowL M (k : Int) j ++ [weiE M (k : Int) (j : Int)]) := Lib.hid (row_succ M (k : Int) j)
          generalize weiE M (k : Int) (j : Int) = y at *
          generalize rowL M (k : Int) j = xs at *
          go_wp2_with fail
          refine HC.out.mono ?_
          rintro e w1 ⟨rfl, hb1⟩
          have HK1 := Lib.hid (HK.out.on hb1)
          clear hb1 HK HF1 HC c0 c1
          go_wp2_with (first
            | (at_builtin; refine wpList_append_own_at _ rfl _ _ 73 rfl W1.heap.size 2 ti (.int .i64 0) 1 8 Tryz.underlying73 hi1 hi2 hi3 hi4 rfl (by decide) u5 xs.length (xs.map encZ) rfl (HK1.out.2.alloc _) ⟨w1.heap.size, 0, none⟩ 1 1 [.int .i64 y] rfl rfl one_news (by intro u hu; simp at hu; subst hu; rfl) (by unfold maxLen; omega) (by omega) (by have := HK1.out.1.size; simp; omega) ?_; intro v' w6 hown6 hg6 _ _; have hst := HK1.out.step y hown6 hg6; rw [← HU.out] at hst; have HS6 := Lib.hid hst; clear hst hown6 hg6)
            | go_in)
          go_roundw
          case rel => exact ⟨j + 1, by go_num, hlt2, HS6⟩
          case measure => (simp [intOf]; omega)
        · have hj' : j = n := by omega
          have i2 : ¬ (j : Int) < (n : Int) := by omega
          obtain ⟨q, cap, rfl, hrd, -⟩ := HK.out.reads
          have HIN : Hid (∀ x ∈ rowL M (k : Int) j, In x) := Lib.hid fun x hx => by
            obtain ⟨v, -, rfl⟩ := List.mem_map.1 hx
            exact row_in HG.out _ _
          have HC := Lib.hid (R6.refList_any q cap (rowL M (k : Int) j) wr HIN.out hrd (by omega))
          obtain ⟨X, hX⟩ : ∃ X : ByteArray, X = ⟨(nums (rowL M (k : Int) j)).toArray⟩ := ⟨_, rfl⟩
          have t2 : X.size ≤ 100000 := by have := nums_size HIN.out; rw [hX, size_mk]; omega
          have HN2 : Hid (T ++ X ++ ⟨#[10]⟩ = ⟨(rowsP n M (k + 1)).toArray⟩) := Lib.hid (by
            rw [HT.out, hX, rows_succ, hj', show (⟨#[10]⟩ : ByteArray) = ⟨[10].toArray⟩ from rfl, cat_bytes, cat_bytes, List.append_assoc])
          rw [← hX, hll] at HC
          clear hX hj' HT HIN hrd
          generalize rowL M (k : Int) j = xs at *
          go_wp2_with fail
          clear c0 c1
          refine HC.out.mono ?_
          rintro e w2 ⟨rfl, hb2⟩
          have HF2 := Lib.hid (HF1.out.keep hb2)
          clear hb2 HC
          go_wp2
          go_roundw
          case rel => exact ⟨k + 1, _, by go_num, hlt, rfl, HN2, HF2⟩
          case measure => (simp [intOf]; omega)
    · have hke : k = n := by omega
      have i1 : ¬ (k : Int) < (n : Int) := by omega
      have HE : Hid (T = ⟨(rowsP n M n).toArray⟩) := Lib.hid (by rw [HT.out, hke])
      clear HT hke
      go_wp2
      go_ret
      refine ⟨?_, HF.out.1⟩
      rw [← HE.out]; rfl
end Go.Proofs.YtdbebebhldldmaaGreatDoor.Gp
/- An edge by value, a list of edges, as a statement's frame tells of them. -/
namespace Go.Proofs.YtdbebebhldldmaaGreatDoor
open Go.RowKit Go.ChangeShapes Go.WideShapes EdPure
def EdIn (W : World) (a : Option Addr) (l : List Ed) : Prop := InL l ∧ ReadsE W.heap.size W a l
theorem arr3 {α : Type} {cs : Array α} (h : cs.size = 3) : ∃ c0 c1 c2, cs = #[c0, c1, c2] := by
  obtain ⟨l⟩ := cs
  match l, h with
  | [c0, c1, c2], _ => exact ⟨c0, c1, c2, rfl⟩
set_option maxRecDepth 20000 in
theorem open_edge {H : Type} {enc : TypeId × Value → H} {W : World} {base : Nat} {sp : Nat → Bool} {held : Bool} {r : Reach} {b0 : Nat} {v : Value} {d : DataW H} {ps : List MemPlace}
    (hv : Value.okWide Tryz.prog W r b0 51 v) (h : DataW.Trod enc Tryz.prog W base sp held 51 v d ps) :
    ∃ e : Ed, v = encE e ∧ InE e := by
  have hu := Tryz.underlying51
  have hC : Tryz.prog.cellsOf 51 = 3 := by kernel_rfl
  have ci : Tryz.prog.cellsOf 3 = 1 := by kernel_rfl
  have ci2 : Tryz.prog.cellsOf 2 = 1 := by kernel_rfl
  simp only [Value.okWide, hu] at hv
  obtain ⟨cs, rfl, hsz, _⟩ := hv
  obtain ⟨c0, c1, c2, rfl⟩ := arr3 (hsz.trans hC)
  obtain ⟨fuel, hf⟩ := h
  obtain ⟨xs, k, hk, hxy, _, hxl, hfl⟩ := DataW.trod_struct hu hf
  match xs, hxl with
  | [y0, y1, y2], _ =>
    have g0 := hfl 0 _ rfl
    have g1 := hfl 1 _ rfl
    have g2 := hfl 2 _ rfl
    simp [ci, ci2, Value.cells] at g0 g1 g2
    obtain ⟨n0, q0, -, w0⟩ := DataW.trod_int (t := 3) Tryz.underlying3 g0
    obtain ⟨n1, q1, -, w1⟩ := DataW.trod_int (t := 3) Tryz.underlying3 g1
    obtain ⟨n2, q2, -, w2⟩ := DataW.trod_int (t := 2) Tryz.underlying2 g2
    have q0' : c0 = .int .i64 n0 := by simpa using q0
    have q1' : c1 = .int .i64 n1 := by simpa using q1
    have q2' : c2 = .int .i64 n2 := by simpa using q2
    subst q0' q1' q2'
    exact ⟨(n0, n1, n2), rfl, bounds_i64 w0, bounds_i64 w1, bounds_i64 w2⟩
end Go.Proofs.YtdbebebhldldmaaGreatDoor
