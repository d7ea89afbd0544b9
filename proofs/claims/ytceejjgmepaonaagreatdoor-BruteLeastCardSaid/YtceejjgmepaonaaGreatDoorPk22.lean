/- Texts that the laws of this seat stand on, part 22. -/
import Derived.Test.YtceejjgmepaonaaGreatDoorPk17
import Derived.Test.YtceejjgmepaonaaGreatDoorPk21
import Derived.Test.YtceejjgmepaonaaGreatDoorPk19
import Derived.Test.YtceejjgmepaonaaGreatDoorPk8
import Derived.Deep.RegionWith
import Derived.Shelf.Abstract
import Derived.Test.YtceejjgmepaonaaGreatDoorPk4
import Derived.Deep.QuietTactic
import Derived.BigQuiet
import Derived.IntWalk
/- weightsOf's contract: what all vertices weigh to each other, row by row, in blocks of the call's own. -/
namespace Go.Proofs.YtceejjgmepaonaaGreatDoor.Bg
open Go.RowKit Go.ChangeShapes BgPure EdPure NtPure
/-- The rows while they are made, one row while it is filled. -/
def rowsV (N k : Nat) (rs : Nat → Nat) : List Value := (List.range N).map fun u => if u < k then .slice (some ⟨rs u, 0, none⟩) N N else .slice none 0 0
def weiV (M : List Ed) (N u v : Nat) : List Value := (List.range N).map fun x : Nat => if x < v then .int .i64 (weiE M u x) else .int .i64 0
theorem rowsV_len (N k : Nat) (rs : Nat → Nat) : (rowsV N k rs).length = N := by unfold rowsV; simp
theorem weiV_len (M : List Ed) (N u v : Nat) : (weiV M N u v).length = N := by unfold weiV; simp
theorem rowsV_at {N k u : Nat} {rs : Nat → Nat} (h : u < (rowsV N k rs).length) : (rowsV N k rs)[u] = if u < k then .slice (some ⟨rs u, 0, none⟩) N N else .slice none 0 0 := by simp only [rowsV, List.getElem_map, List.getElem_range]
theorem weiV_at {M : List Ed} {N u v x : Nat} (h : x < (weiV M N u v).length) : (weiV M N u v)[x] = if x < v then .int .i64 (weiE M u x) else .int .i64 0 := by simp only [weiV, List.getElem_map, List.getElem_range]
theorem rowsV_zero (N : Nat) (rs : Nat → Nat) : rowsV N 0 rs = List.replicate N (.slice none 0 0) := by
  refine List.ext_getElem (by rw [rowsV_len]; simp) fun i h1 h2 => ?_
  rw [rowsV_at, if_neg (by omega)]; simp
theorem weiV_zero (M : List Ed) (N u : Nat) : weiV M N u 0 = List.replicate N (.int .i64 0) := by
  refine List.ext_getElem (by rw [weiV_len]; simp) fun i h1 h2 => ?_
  rw [weiV_at, if_neg (by omega)]; simp
theorem rowsV_next (N k : Nat) (rs : Nat → Nat) (r : Nat) : (rowsV N k rs).set k (.slice (some ⟨r, 0, none⟩) N N) = rowsV N (k + 1) (fun u => if u = k then r else rs u) := by
  refine List.ext_getElem (by rw [List.length_set, rowsV_len, rowsV_len]) fun i h1 h2 => ?_
  rw [List.getElem_set, rowsV_at h2]
  by_cases e : k = i
  · subst e; rw [if_pos rfl, if_pos (Nat.lt_succ_self _), if_pos rfl]
  · rw [if_neg e, rowsV_at (by rw [List.length_set] at h1; exact h1), if_neg (fun h : i = k => e h.symm)]
    by_cases e2 : i < k
    · rw [if_pos e2, if_pos (show i < k + 1 by omega)]
    · rw [if_neg e2, if_neg (show ¬ i < k + 1 by omega)]
theorem weiV_next (M : List Ed) (N u v : Nat) : (weiV M N u v).set v (.int .i64 (weiE M u v)) = weiV M N u (v + 1) := by
  refine List.ext_getElem (by rw [List.length_set, weiV_len, weiV_len]) fun i h1 h2 => ?_
  rw [List.getElem_set, weiV_at h2]
  by_cases e : v = i
  · subst e; rw [if_pos rfl, if_pos (Nat.lt_succ_self _)]
  · rw [if_neg e, weiV_at (by rw [List.length_set] at h1; exact h1)]
    by_cases e2 : i < v
    · rw [if_pos e2, if_pos (show i < v + 1 by omega)]
    · rw [if_neg e2, if_neg (show ¬ i < v + 1 by omega)]
theorem row_other {r b i : Nat} {W : World} {vs : List Value} (h : RowIs r W vs) (hne : r ≠ b) (v : Value) : RowIs r (W.setCell ⟨b, i, none⟩ v) vs := row_same h (cell_other hne)
def RoSt (w : World) (M : List Ed) (N R k v : Nat) (rs : Nat → Nat) (W : World) : Prop :=
  Below w.heap.size w W ∧ w.heap.size ≤ R ∧ R < W.heap.size ∧ (∀ u, u < k → R < rs u ∧ rs u < W.heap.size ∧ ∀ x, x < u → rs x ≠ rs u) ∧ RowIs R W (rowsV N k rs) ∧ ∀ u, u < k → RowIs (rs u) W (weiV M N u (if u + 1 = k then v else N))
theorem RoSt.keep {w : World} {M : List Ed} {N R k v : Nat} {rs : Nat → Nat} {W W' : World} (h : RoSt w M N R k v rs W) (hb : Below W.heap.size W W') : RoSt w M N R k v rs W' := by
  obtain ⟨h1, h2, h3, h4, h5, h6⟩ := h
  have hs := hb.size
  exact ⟨h1.trans (hb.mono h1.size), h2, by omega, fun u hu => by have := h4 u hu; exact ⟨this.1, by omega, this.2.2⟩, h5.on hb h3, fun u hu => (h6 u hu).on hb (h4 u hu).2.1⟩
theorem RoSt.drawn {w : World} {M : List Ed} {N R k v : Nat} {rs : Nat → Nat} {W : World} (h : RoSt w M N R k v rs W) (n : Nat) : RoSt w M N R k v rs (W.drewN n) := ⟨below_drewN h.1 n, h.2⟩
theorem RoSt.row {w : World} {M : List Ed} {N R k : Nat} {rs : Nat → Nat} {W W1 : World} (h : RoSt w M N R k N rs W) (hb : Below W.heap.size W W1) (hk : k < N) (T : TypeId) :
    RoSt w M N R (k + 1) 0 (fun u => if u = k then W1.heap.size else rs u) ((W1.alloc (.cells (madeCells #[.int .i64 0] N) T)).setCell ⟨R, k, none⟩ (.slice (some ⟨W1.heap.size, 0, none⟩) N N)) := by
  have hA : Below W1.heap.size W1 (W1.alloc (.cells (madeCells #[.int .i64 0] N) T)) := (Below.refl _ _).alloc (Nat.le_refl _) _
  obtain ⟨h1, h2, h3, h4, h5, h6⟩ := (h.keep hb).keep hA
  have hs0 := h.2.2.1
  have hs1 := hb.size
  have hsz : (W1.alloc (.cells (madeCells #[.int .i64 0] N) T)).heap.size = W1.heap.size + 1 := by simp
  have hnew := rowIs_made W1 (.int .i64 0) N T
  have hold := h.2.2.2.1
  refine ⟨h1.setCell (p := ⟨R, k, none⟩) h2 _, h2, by simp; omega, fun u hu => ?_, ?_, fun u hu => ?_⟩
  · by_cases e : u = k
    · subst e
      show R < (if u = u then W1.heap.size else rs u) ∧ (if u = u then W1.heap.size else rs u) < _ ∧ ∀ x, x < u → (if x = u then W1.heap.size else rs x) ≠ (if u = u then W1.heap.size else rs u)
      rw [if_pos rfl]
      refine ⟨by omega, by simp, fun x hx => ?_⟩
      have := hold x hx
      rw [if_neg (show ¬ x = u by omega)]
      omega
    · have hu2 := hold u (by omega)
      show R < (if u = k then W1.heap.size else rs u) ∧ (if u = k then W1.heap.size else rs u) < _ ∧ ∀ x, x < u → (if x = k then W1.heap.size else rs x) ≠ (if u = k then W1.heap.size else rs u)
      rw [if_neg e]
      refine ⟨by omega, by simp; omega, fun x hx => ?_⟩
      rw [if_neg (show ¬ x = k by omega)]
      exact hu2.2.2 x hx
  · rw [← rowsV_next]
    exact h5.set (by rw [rowsV_len]; exact hk) _
  · by_cases e : u = k
    · subst e
      show RowIs (if u = u then W1.heap.size else rs u) _ (weiV M N u (if u + 1 = u + 1 then 0 else N))
      rw [if_pos rfl, if_pos rfl, weiV_zero]
      exact row_other hnew (by omega) _
    · show RowIs (if u = k then W1.heap.size else rs u) _ (weiV M N u (if u + 1 = k + 1 then 0 else N))
      rw [if_neg e, if_neg (show ¬ u + 1 = k + 1 by omega)]
      have hq := h6 u (by omega)
      rw [show (if u + 1 = k then N else N) = N by split <;> rfl] at hq
      exact row_other hq (by have := (hold u (by omega)).1; omega) _
theorem RoSt.put {w : World} {M : List Ed} {N R k v : Nat} {rs : Nat → Nat} {W W1 : World} (h : RoSt w M N R (k + 1) v rs W) (hb : Below W.heap.size W W1) (hv : v < N) :
    RoSt w M N R (k + 1) (v + 1) rs (W1.setCell ⟨rs k, v, none⟩ (.int .i64 (weiE M k v))) := by
  obtain ⟨h1, h2, h3, h4, h5, h6⟩ := h.keep hb
  have hk := h4 k (Nat.lt_succ_self k)
  refine ⟨h1.setCell (p := ⟨rs k, v, none⟩) (by simp; omega) _, h2, by simpa using h3, fun u hu => by simpa using h4 u hu, row_other h5 (by omega) _, fun u hu => ?_⟩
  have h7 := h6 u hu
  by_cases e : u = k
  · subst e
    rw [if_pos rfl] at h7 ⊢
    rw [← weiV_next]
    exact h7.set (by rw [weiV_len]; exact hv) _
  · rw [if_neg (by omega)] at h7 ⊢
    exact row_other h7 (hk.2.2 u (by omega)) _
theorem RoSt.full {w : World} {M : List Ed} {N R k : Nat} {rs : Nat → Nat} {W : World} (h : RoSt w M N R k N rs W) : RoSt w M N R k N rs W := h
theorem RoSt.cell {w : World} {M : List Ed} {N R k v : Nat} {rs : Nat → Nat} {W : World} (h : RoSt w M N R (k + 1) v rs W) (hk : k < N) : W.cell? ⟨R, k, none⟩ = some (.slice (some ⟨rs k, 0, none⟩) N N) := by
  have := (h.2.2.2.2.1 k (by rw [rowsV_len]; exact hk)).1
  rw [rowsV_at, if_pos (by omega)] at this
  exact this
/-- Rows that are read: all weights. -/
def WtAt (M : List Ed) (N R : Nat) (rs : Nat → Nat) (W : World) : Prop :=
  R < W.heap.size ∧ ∀ u, u < N → rs u < W.heap.size ∧ W.cell? ⟨R, u, none⟩ = some (.slice (some ⟨rs u, 0, none⟩) N N) ∧ ∀ v : Nat, v < N → W.cell? ⟨rs u, v, none⟩ = some (.int .i64 (weiE M u v))
theorem RoSt.done {w : World} {M : List Ed} {N R : Nat} {rs : Nat → Nat} {W : World} (h : RoSt w M N R N N rs W) : WtAt M N R rs W := by
  obtain ⟨h1, h2, h3, h4, h5, h6⟩ := h
  refine ⟨h3, fun u hu => ⟨(h4 u hu).2.1, ?_, fun v hv => ?_⟩⟩
  · have := (h5 u (by rw [rowsV_len]; exact hu)).1
    rw [rowsV_at, if_pos hu] at this
    exact this
  · have h7 := h6 u hu
    rw [show (if u + 1 = N then N else N) = N by split <;> rfl] at h7
    have := (h7 v (by rw [weiV_len]; exact hv)).1
    rw [weiV_at, if_pos hv] at this
    exact this
theorem info_w : (Tryz.prog.info? 108).map (fun i => (i.zero, i.size, i.bytes)) = some (some (.slice none 0 0), 1, 24) := by kernel_rfl
def WtsOut (M : List Ed) (N : Nat) (w : World) (e : Ending) (w' : World) : Prop :=
  ∃ R rs, e = .returned (.slice (some ⟨R, 0, none⟩) N N) ∧ WtAt M N R rs w' ∧ Below w.heap.size w w' ∧ w.heap.size ≤ R ∧ ∀ u, u < N → R < rs u
set_option maxRecDepth 100000 in
set_option maxHeartbeats 8000000 in
theorem weights_any (p : Option Addr) (N : Nat) (M : List Ed) (hN : N ≤ 4096) (hG : GoodN N M) (hM : M.length ≤ 1048576) (w : World) (h : NetAt p N M w) :
    Calls Tryz.prog 51 #[.pointer p] w fun e w' => WtsOut M N w e w' := by
  have HN := Lib.hid h
  have HW := Lib.hid (fun (u v : Int) (w1 : World) (hb : Below w.heap.size w w1) => weight_any p N M hG hM u v w1 (h.over hb))
  have HNum := Lib.hid (fun (w1 : World) (hb : Below w.heap.size w w1) => num_any p N M w1 (h.over hb))
  have hmk := fun W => makeRow (P := Tryz.prog) (T := 105) (E := 108) (z := .slice none 0 0) (c := 24) Tryz.underlying105 info_w (by decide) rfl N (by omega) W
  have hmr := fun W => makeRow (P := Tryz.prog) (T := 108) (E := 2) (z := .int .i64 0) (c := 8) Tryz.underlying108 (by kernel_rfl) (by decide) rfl N (by omega) W
  clear h hG
  go_enter Tryz.func51, Tryz.ntmps51
  go_wp2_with fail
  refine (HNum.out w (Below.refl _ _)).mono ?_
  rintro e w1 ⟨rfl, hb1⟩
  have HB1 := Lib.hid hb1
  clear hb1
  have hst : RoSt w M N w1.heap.size 0 N (fun _ => 0) (w1.alloc (.cells (madeCells #[.slice none 0 0] N) 108)) :=
    ⟨HB1.out.alloc HB1.out.size _, HB1.out.size, by simp, fun u hu => by omega, by rw [rowsV_zero]; exact rowIs_made w1 (.slice none 0 0) N 108, fun u hu => by omega⟩
  have HS0 := Lib.hid hst
  clear hst
  go_wp2_with fail
  generalize w1.alloc (.cells (madeCells #[.slice none 0 0] N) 108) = W1 at *
  generalize w1.heap.size = R at *
  go_loopw [11] (fun i wr => ∃ k : Nat, i = .int .i64 k ∧ k ≤ N ∧ Hid (∃ rs, RoSt w M N R k N rs wr)) (fun i _ => N - (intOf i).toNat)
  case atStart => exact ⟨0, rfl, Nat.zero_le _, Lib.hid ⟨_, HS0.out⟩⟩
  case round =>
    clear HS0
    obtain ⟨k, rfl, hk, HS⟩ := hrel
    have i0 : (0 : Int) ≤ (k : Int) := by omega
    by_cases hlt : k < N
    · have i1 : (k : Int) < (N : Int) := by omega
      obtain ⟨rs, hS⟩ := HS.out
      have HSS := Lib.hid hS
      have HBw := Lib.hid hS.1
      clear hS HS
      go_wp2_with fail
      refine (HNum.out _ HBw.out).mono ?_
      rintro e w2 ⟨rfl, hb2⟩
      have hrl : R < w2.heap.size := Nat.lt_of_lt_of_le HSS.out.2.2.1 hb2.size
      have hnew := HSS.out.row hb2 hlt 2
      have hm2 := hmr w2
      obtain ⟨cR, fR⟩ := ((HSS.out.keep hb2).2.2.2.2.1 k (by rw [rowsV_len]; exact hlt))
      rw [World.setCell_alloc_past _ _ _ _ hrl] at hnew
      obtain ⟨rs2, hrs⟩ : ∃ rs2 : Nat → Nat, rs2 = fun u => if u = k then w2.heap.size else rs u := ⟨_, rfl⟩
      rw [← hrs] at hnew
      have hrk : rs2 k = w2.heap.size := by rw [hrs]; exact if_pos rfl
      have HS2 := Lib.hid hnew
      have HRK := Lib.hid hrk
      clear hnew hrs hrk hb2
      go_upto_region 6 with fail
      generalize (w2.setCell ⟨R, k, none⟩ (.slice (some ⟨w2.heap.size, 0, none⟩) N N)).alloc (.cells (madeCells #[.int .i64 0] N) 2) = W3 at *
      generalize w2.heap.size = r at *
      clear hm2 cR fR
      have c0 : W3.cell? ⟨R, k, none⟩ = some (.slice (some ⟨r, 0, none⟩) N N) := by have := HS2.out.cell hlt; rwa [HRK.out] at this
      have hrl3 : R < W3.heap.size := HS2.out.2.2.1
      clear HSS HBw hrl
      go_wp2_with fail
      clear c0 hrl3
      obtain ⟨wq, hwq⟩ : ∃ wq, wq = wr := ⟨_, rfl⟩
      clear hwq
      go_loopw [25] (fun i wr => ∃ v : Nat, i = .int .i64 v ∧ v ≤ N ∧ Hid (RoSt w M N R (k + 1) v rs2 wr)) (fun i _ => N - (intOf i).toNat)
      case atStart => exact ⟨0, rfl, Nat.zero_le _, HS2⟩
      case round =>
        clear HS2
        obtain ⟨v, rfl, hv, HS⟩ := hrel
        have j0 : (0 : Int) ≤ (v : Int) := by omega
        by_cases hvt : v < N
        · have j1 : (v : Int) < (N : Int) := by omega
          have c0 : wr.cell? ⟨R, k, none⟩ = some (.slice (some ⟨r, 0, none⟩) N N) := by have := HS.out.cell hlt; rwa [HRK.out] at this
          have hrl3 : R < wr.heap.size := HS.out.2.2.1
          have hrr : r < wr.heap.size := by have := (HS.out.2.2.2.1 k (Nat.lt_succ_self k)).2.1; rwa [HRK.out] at this
          have hcr := (HS.out.2.2.2.2.2 k (Nat.lt_succ_self k) v (by rw [weiV_len]; exact hvt))
          rw [HRK.out] at hcr
          obtain ⟨cr, fr⟩ := hcr
          go_wp2_with fail
          go_region_with (first | (go_at_call 65; refine (HW.out _ _ _ (HS.out.drawn 1).1).mono ?_; rintro e w5 ⟨rfl, hb5⟩; have HS5 := Lib.hid ((HS.out.drawn 1).keep hb5); clear hb5; have c05 : w5.cell? ⟨R, k, none⟩ = some (.slice (some ⟨r, 0, none⟩) N N) := (by have := HS5.out.cell hlt; rwa [HRK.out] at this); obtain ⟨cr5, fr5⟩ := (HRK.out ▸ HS5.out.2.2.2.2.2 k (Nat.lt_succ_self k) v (by rw [weiV_len]; exact hvt) : w5.cell? ⟨r, v, none⟩ = _ ∧ w5.frozen? ⟨r, v, none⟩ = false); have hrr5 : r < w5.heap.size := (by have := (HS5.out.2.2.2.1 k (Nat.lt_succ_self k)).2.1; rwa [HRK.out] at this)))
          all_goals have HSn := Lib.hid (HS5.out.put (Below.refl _ _) hvt)
          all_goals rw [HRK.out] at HSn
          all_goals go_wp2
          all_goals go_roundw
          all_goals first
            | exact ⟨v + 1, by go_num, by omega, HSn⟩
            | (simp [intOf] <;> omega)
        · have hve : v = N := by omega
          subst hve
          go_wp2
          go_roundw
          case rel => exact ⟨k + 1, by go_num, by omega, Lib.hid ⟨rs2, HS.out.full⟩⟩
          case measure => (simp [intOf] <;> omega)
    · have hke : k = N := by omega
      subst hke
      obtain ⟨rs, hS⟩ := HS.out
      have HE : Hid (WtsOut M k w (.returned (.slice (some ⟨R, 0, none⟩) k k)) wr) := Lib.hid ⟨R, rs, rfl, hS.done, hS.1, hS.2.1, fun u hu => (hS.2.2.2.1 u hu).1⟩
      clear hS
      go_wp2
      go_ret
      exact HE.out
end Go.Proofs.YtceejjgmepaonaaGreatDoor.Bg
/- through's contract: whatever is handed the sides, and leaves the rows of weights alone, is handed each side without the vertex 0, in the walk's order, and what it weighs. -/
namespace Go.Proofs.YtceejjgmepaonaaGreatDoor.Bg
open Go.RowKit Go.ChangeShapes BgPure EdPure NtPure
/-- A vertex's row, plainly. -/
def rowL (M : List Ed) (N v : Nat) : List Int := (List.range N).map fun u : Nat => weiE M v u
theorem rowL_len (M : List Ed) (N v : Nat) : (rowL M N v).length = N := by unfold rowL; simp
theorem rowL_at {M : List Ed} {N v u : Nat} (h : u < (rowL M N v).length) : (rowL M N v)[u] = weiE M v u := by simp only [rowL, List.getElem_map, List.getElem_range]
theorem rowL_sum (M : List Ed) (v : Nat) : ∀ N, (rowL M N v).sum = sumN (fun u => weiE M v u) N
  | 0 => rfl
  | N + 1 => by
    have := rowL_sum M v N
    unfold rowL at this ⊢
    rw [List.range_succ, List.map_append, List.sum_append, this]
    show _ = sumN _ N + _
    simp
theorem rowL_fits {N : Nat} {M : List Ed} (h : GoodN N M) (v : Nat) : Fits (rowL M N v) := fun x hx => by
  unfold rowL at hx
  obtain ⟨u, -, rfl⟩ := List.mem_map.1 hx
  have := wei_rng h (v : Int) (u : Int)
  have := h.2.2
  omega
theorem rowL_rowN {M : List Ed} {N v g : Nat} (hg : g < 2 ^ N) : rowN (rowL M N v) (grpN g) = rowS (fun u => weiE M v u) (grpL g) := by
  unfold rowN rowS grpL
  rw [List.map_map]
  congr 1
  refine List.map_congr_left fun u hu => ?_
  have hl : u < (rowL M N v).length := by rw [rowL_len]; exact grp_lt hg hu
  rw [List.getD_eq_getElem?_getD, List.getElem?_eq_getElem hl, Option.getD_some, rowL_at]
  rfl
theorem mo_is {M : List Ed} {N g v : Nat} (hg : g < 2 ^ N) : (rowL M N v).sum - 2 * rowN (rowL M N v) (grpN (facG (rowL M N v).length g v)) = moG M N g v := by
  rw [rowL_len, rowL_sum, rowL_rowN (fac_lt hg)]
  rfl
theorem wt_reads {M : List Ed} {N R v : Nat} {rs : Nat → Nat} {W : World} (h : WtAt M N R rs W) (hv : v < N) : ReadsL encZ W.heap.size W (some ⟨rs v, 0, none⟩) (rowL M N v) := by
  obtain ⟨h1, -, h3⟩ := h.2 v hv
  refine Or.inr ⟨_, _, rfl, h1, fun i hi => ?_⟩
  rw [rowL_at, Nat.zero_add]
  exact h3 i (by rw [rowL_len] at hi; exact hi)
theorem WtAt.keep {M : List Ed} {N R : Nat} {rs : Nat → Nat} {W W' : World} (h : WtAt M N R rs W) (hb : Below W.heap.size W W') : WtAt M N R rs W' := by
  have hs := hb.size
  refine ⟨by have := h.1; omega, fun u hu => ?_⟩
  obtain ⟨h1, h2, h3⟩ := h.2 u hu
  exact ⟨by omega, (hb.cell (p := ⟨R, u, none⟩) h.1).trans h2, fun v hv => (hb.cell (p := ⟨rs u, v, none⟩) h1).trans (h3 v hv)⟩
theorem WtAt.past {M : List Ed} {N R lo hi : Nat} {rs : Nat → Nat} {W W' : World} (h : WtAt M N R rs W) (hs : W.heap.size ≤ W'.heap.size) (hk : ∀ k, lo ≤ k → k < hi → W'.heap[k]? = W.heap[k]?) (hR : lo ≤ R ∧ R < hi) (hr : ∀ u, u < N → lo ≤ rs u ∧ rs u < hi) : WtAt M N R rs W' := by
  refine ⟨by have := h.1; omega, fun u hu => ?_⟩
  obtain ⟨h1, h2, h3⟩ := h.2 u hu
  have hu2 := hr u hu
  exact ⟨by omega, (World.cell?_of_block (hk R hR.1 hR.2)).trans h2, fun v hv => (World.cell?_of_block (hk _ hu2.1 hu2.2)).trans (h3 v hv)⟩
theorem half (N : Nat) : (2 ^ N - 1) / 2 = 2 ^ (N - 1) - 1 := by
  cases N with
  | zero => rfl
  | succ n => rw [Nat.pow_succ, Nat.add_sub_cancel]; have := Nat.two_pow_pos n; omega
theorem cut_rng {N : Nat} {M : List Ed} (h : GoodN N M) (i : Nat) : 0 ≤ wG M i ∧ wG M i ≤ 2251799813685248 := ⟨CutPure.cut_nonneg h.non _, Int.le_trans (CutPure.cut_le_all h.non _) h.2.2⟩
/-- What a note is asked: it is handed the sides one by one, in the walk's order; J is its own word, lo and b the blocks that it leaves alone. -/
def Notes (N : Nat) (M : List Ed) (f : Nat) (caps : Array Value) (lo : Nat) (J : Nat → Nat → World → Prop) : Prop :=
  ∀ b i W, i < 2 ^ (N - 1) - 1 → J b i W → Calls Tryz.prog f (#[.int .u32 (gaG (i + 1) : Int), .int .i64 (wG M (i + 1))] ++ caps) W fun e V => (∃ v, e = .returned v) ∧ J b (i + 1) V ∧ W.heap.size ≤ V.heap.size ∧ ∀ k, lo ≤ k → k < b → V.heap[k]? = W.heap[k]?
/-- The state of the walk. -/
def ThSt (M : List Ed) (N lo R : Nat) (rs : Nat → Nat) (J : Nat → Nat → World → Prop) (b i : Nat) (W : World) : Prop :=
  J b i W ∧ WtAt M N R rs W ∧ (lo ≤ R ∧ R < b) ∧ ∀ u, u < N → lo ≤ rs u ∧ rs u < b
set_option maxRecDepth 100000 in
set_option maxHeartbeats 8000000 in
theorem through_any (p : Option Addr) (N : Nat) (M : List Ed) (hN : N ≤ 20) (hG : GoodN N M) (hM : M.length ≤ 1048576) (w0 w : World) (h : NetAt p N M w0) (hT : Tab w0) (f : Nat) (caps : Array Value)
    (eg : ∀ args w, (callFunc f args).run Tryz.prog w = .ok (.enter f args) w) (J : Nat → Nat → World → Prop) (h0 : ∀ W, Below w.heap.size w W → J W.heap.size 0 W) (hw : Below w0.heap.size w0 w)
    (hB : ∀ b i W, J b i W → Below w0.heap.size w0 W) (hK : ∀ b i W W', J b i W → Below W.heap.size W W' → J b i W') (hY : Notes N M f caps w.heap.size J) :
    Calls Tryz.prog 30 #[.pointer p, .func (.func f) #[] caps] w fun e w' => (∃ v, e = .returned v) ∧ ∃ b, J b (2 ^ (N - 1) - 1) w' := by
  have HN := Lib.hid (fun (w1 : World) (hb : Below w0.heap.size w0 w1) => num_any p N M w1 (h.over hb))
  have HWs := Lib.hid (weights_any p N M (by omega) hG hM w (h.over hw))
  have HT := Lib.hid hT
  have HG := Lib.hid hG
  have HJ0 := Lib.hid h0
  have HB := Lib.hid hB
  have HK := Lib.hid hK
  have HY := Lib.hid hY
  have h19 : 2 ^ (N - 1) ≤ 2 ^ 19 := Nat.pow_le_pow_right (by decide) (by omega)
  have h20 : 2 ^ N ≤ 2 ^ 20 := Nat.pow_le_pow_right (by decide) hN
  obtain ⟨K, hKe⟩ : ∃ K, 2 ^ (N - 1) - 1 = K := ⟨_, rfl⟩
  obtain ⟨E, hE⟩ : ∃ E, 2 ^ N - 1 = E := ⟨_, rfl⟩
  have hEK := half N
  rw [hE, hKe] at hEK
  have hEv := Lib.hid (every_any N (by omega))
  rw [hE] at hEv
  have hK19 : K ≤ 524287 := by omega
  have HKE := Lib.hid hKe
  rw [hKe]
  have HEb : Hid (E < 1048576) := Lib.hid (by omega)
  have hEK2 : (E : Int) / 2 = (K : Int) := by omega
  clear h hG h0 hw hB hK hY hT h19 h20 hKe hE hEK
  go_enter Tryz.func30, Tryz.ntmps30
  go_wp2_with fail
  refine HWs.out.mono ?_
  rintro e w1 ⟨R, rs, rfl, hwt, hb1, hR, hrs⟩
  have HS0 : Hid (ThSt M N w.heap.size R rs J w1.heap.size 0 w1) := Lib.hid ⟨HJ0.out w1 hb1, hwt, ⟨hR, hwt.1⟩, fun u hu => ⟨by have := hrs u hu; omega, (hwt.2 u hu).1⟩⟩
  clear hwt hb1 hR hrs HWs HJ0
  generalize w1.heap.size = b at *
  generalize w.heap.size = lo at *
  go_wp2_with fail
  go_loopw [5, 6, 7] (fun s g st wr => ∃ i : Nat, i ≤ K ∧ s = .int .u32 (gaG i : Int) ∧ g = .int .i64 (wG M i) ∧ st = .int .u32 ((i : Int) + 1) ∧ Hid (ThSt M N lo R rs J b i wr)) (fun _ _ st _ => K + 1 - (intOf st).toNat)
  case atStart => exact ⟨0, Nat.zero_le _, by rw [ga_zero]; rfl, by rw [wG_zero], rfl, HS0⟩
  case round =>
    clear HS0
    obtain ⟨i, hi, rfl, rfl, rfl, HS⟩ := hrel
    go_wp2_with fail
    refine (HN.out _ (HB.out _ _ _ HS.out.1)).mono ?_
    rintro e w2 ⟨rfl, hb2⟩
    have HS2 : Hid (ThSt M N lo R rs J b i w2) := Lib.hid ⟨HK.out _ _ _ _ HS.out.1 hb2, HS.out.2.1.keep hb2, HS.out.2.2⟩
    clear hb2 HS
    by_cases hlt : i < K
    · have i1 : (i : Int) + 1 ≤ (K : Int) := by omega
      have hi1 : i + 1 < 2 ^ (N - 1) := by have := HKE.out; omega
      have hN1 : 1 ≤ N := by
        apply Classical.byContradiction
        intro hc
        rw [show N = 0 by omega] at hi1
        simp at hi1
      have hlow := low_gray (i := i) (k := N - 1) hi1 (by omega)
      have HST := Lib.hid (wG_step HG.out (by omega) hi1)
      have HXR := Lib.hid (ga_step (i := i) (k := N - 1) hi1 (by omega))
      have hgl : gaG i < 2 ^ N := by have := ga_lt (i := i) (k := N - 1) (by omega); rwa [show N - 1 + 1 = N by omega] at this
      have hgl2 : gaG (i + 1) < 2 ^ N := by have := ga_lt (i := i + 1) (k := N - 1) hi1; rwa [show N - 1 + 1 = N by omega] at this
      have h20 : 2 ^ N ≤ 2 ^ 20 := Nat.pow_le_pow_right (by decide) hN
      have HZ := Lib.hid (fun w hT => tz_any (i + 1) (by omega) w hT)
      rw [show ((i + 1 : Nat) : Int) = (i : Int) + 1 by omega] at HZ
      obtain ⟨V, hV⟩ : ∃ V, lowG (i + 1) + 1 = V := ⟨_, rfl⟩
      have hVN : V < N := by omega
      have hV2 : (lowG (i + 1) : Int) + 1 = (V : Int) := by omega
      rw [hV] at HST HXR
      have HMore := Lib.hid (fun (w : World) hT hR => more_any (some ⟨rs V, 0, none⟩) N (rowL M N V) (gaG i) V (by rw [rowL_len]; omega) (by rw [rowL_len]; exact hgl) (by rw [rowL_len]; exact hVN) (rowL_fits HG.out V) w hT hR)
      rw [mo_is hgl, rowL_len] at HMore
      have hwr := cut_rng HG.out (i + 1)
      rw [HST.out] at hwr
      have hxor : Hid (bits .xor .u32 ((gaG i : Nat) : Int) ((2 ^ V : Nat) : Int) = ((gaG (i + 1) : Nat) : Int)) := Lib.hid (by
        have hp : 2 ^ V ≤ 2 ^ 20 := Nat.pow_le_pow_right (by decide) (by omega)
        rw [u32_xor_nat _ _ (by omega) (by omega), HXR.out])
      have HYi := Lib.hid (fun W hJ => HY.out b i W (by rw [HKE.out]; exact hlt) hJ)
      rw [HST.out] at HYi
      have hpw : (2 : Int) ^ V = ((2 ^ V : Nat) : Int) := by rw [Int.natCast_pow]; rfl
      clear hi1 hN1 hlow hgl hgl2 h20 hV
      generalize moG M N (gaG i) V = mo at *
      obtain ⟨-, cRV, -⟩ := HS2.out.2.1.2 V hVN
      have hRl := HS2.out.2.1.1
      have i0 : (0 : Int) ≤ (V : Int) := by omega
      have i2 : (V : Int) < (N : Int) := by omega
      go_wp2_with (first | (go_at_call 36; refine (hEv.out _).mono ?_; rintro e w' ⟨rfl, rfl⟩) | (go_at_call 52; refine (HZ.out _ (tab_on HT.out (HB.out _ _ _ HS2.out.1) (Nat.le_refl _))).mono ?_; rintro e w' ⟨rfl, rfl⟩))
      refine (HMore.out _ (tab_on HT.out (HB.out _ _ _ HS2.out.1) (Nat.le_refl _)) (wt_reads HS2.out.2.1 hVN)).mono ?_
      rintro e w3 ⟨rfl, hb3⟩
      have HS3 : Hid (ThSt M N lo R rs J b i w3) := Lib.hid ⟨HK.out _ _ _ _ HS2.out.1 hb3, HS2.out.2.1.keep hb3, HS2.out.2.2⟩
      clear hb3 HS2 cRV hRl HMore HZ
      have hx : bits .xor .u32 ((gaG i : Nat) : Int) ((2 : Int) ^ V % 4294967296) = ((gaG (i + 1) : Nat) : Int) := by
        rw [← hxor.out, hpw]
        congr 1
        have hp : 2 ^ V ≤ 2 ^ 20 := Nat.pow_le_pow_right (by decide) (by omega)
        have hp2 := Nat.two_pow_pos V
        generalize 2 ^ V = q at *
        omega
      clear hpw
      go_wp2_with fail
      refine (HYi.out w3 HS3.out.1).mono ?_
      rintro e w4 ⟨⟨v4, rfl⟩, hj4, hsz, hk4⟩
      have HS4 : Hid (ThSt M N lo R rs J b (i + 1) w4) := Lib.hid ⟨hj4, HS3.out.2.1.past hsz hk4 HS3.out.2.2.1 HS3.out.2.2.2, HS3.out.2.2⟩
      have HWe : Hid (wG M (i + 1) = wG M i + mo) := HST
      clear hj4 hsz hk4 HS3 hx
      go_wp2
      go_roundw
      case rel => exact ⟨i + 1, by omega, rfl, by rw [HWe.out], by (first | rfl | (congr 1; omega) | (congr 1 <;> omega)), HS4⟩
      case measure => (simp [intOf] <;> omega)
    · have hie : i = K := by omega
      subst hie
      have i1 : ¬ ((i : Int) + 1 ≤ (i : Int)) := by omega
      go_wp2_with (first | (go_at_call 36; refine (hEv.out _).mono ?_; rintro e w' ⟨rfl, rfl⟩))
      go_end0
      exact ⟨⟨_, rfl⟩, b, HS2.out.1⟩
end Go.Proofs.YtceejjgmepaonaaGreatDoor.Bg
/- The document's Check and In (layer 21). -/
namespace Go.Proofs.YtceejjgmepaonaaGreatDoor.Sd
open Go.RowKit Go.ChangeShapes EdPure NtPure CutPure SdPure Cm
set_option maxHeartbeats 1000000 in
theorem in_any (a : Option Addr) (c : Nat) (l : List Int) (hl : l.length ≤ 1000000000) (v : Int) (w : World) (hR : ReadsL encZ w.heap.size w a l) :
    Calls Tryz.prog 64 #[.slice a l.length c, .int .i64 v] w fun e w' => e = .returned (.bool (inS l v)) ∧ w' = w := by
  have HR := Lib.hid hR
  clear hR
  go_enter Tryz.func64, Tryz.ntmps64
  go_wp2
  go_loopw [5] (fun i wr => ∃ k : Nat, i = .int .i64 k ∧ k ≤ l.length ∧ Hid (v ∉ l.take k) ∧ wr = w) (fun i _ => l.length - (intOf i).toNat)
  case atStart => exact ⟨0, rfl, Nat.zero_le _, Lib.hid (by simp), rfl⟩
  case round =>
    obtain ⟨k, rfl, hk, HK, rfl⟩ := hrel
    by_cases hlt : k < l.length
    · have i1 : (k : Int) < (l.length : Int) := by omega
      obtain ⟨b, off, rfl, hbN, hc⟩ := HR.out.at hlt
      have hT := take_one hlt
      have hm : l[k] ∈ l := List.getElem_mem hlt
      generalize l[k] = x at *
      unfold encZ at hc
      by_cases hx : x = v
      · subst hx
        have HY : Hid (inS l x = true) := Lib.hid (inS_iff.2 hm)
        clear hT hm
        go_wp2
        go_ret
        exact ⟨bool_ret HY.out.symm, rfl⟩
      · have HN : Hid (v ∉ l.take (k + 1)) := Lib.hid (by rw [hT, List.mem_append]; exact fun e => e.elim HK.out (fun e => hx (List.mem_singleton.1 e).symm))
        have t : (x == v) = false := by simpa using hx
        clear hT hm hx
        go_wp2
        go_roundw
        case rel => exact ⟨k + 1, by go_num, hlt, HN, by trivial⟩
        case measure => simp [intOf]; omega
    · have HY : Hid (inS l v = false) := Lib.hid (by
        have := HK.out
        rw [List.take_of_length_le (by omega)] at this
        cases hb : inS l v with
        | false => rfl
        | true => exact absurd (inS_iff.1 hb) this)
      go_wp2
      go_ret
      exact ⟨bool_ret HY.out.symm, rfl⟩
end Go.Proofs.YtceejjgmepaonaaGreatDoor.Sd
