/- The document's order By: the least one that did not come, again and again. -/
import Derived.Test.YtemcbhbobfjnkaaRankRef2
import Derived.Test.YtemcbhbobfjnkaaTurn
namespace Go.Proofs.Ytemcbhbobfjnkaa
open Go.RowKit Go.ChangeShapes RankPure
def encB (b : Bool) : Value := .bool b
/-- Which places came. -/
def cameL (n : Nat) (xs : List Nat) : List Bool := (List.range n).map fun i => decide (i ∈ xs)
theorem cameL_len (n : Nat) (xs : List Nat) : (cameL n xs).length = n := by unfold cameL; simp
theorem cameL_get {n i : Nat} {xs : List Nat} (h : i < n) : (cameL n xs)[i]'(by rw [cameL_len]; exact h) = decide (i ∈ xs) := by
  simp only [cameL, List.getElem_map, List.getElem_range]
theorem cameL_set {n b : Nat} {xs : List Nat} : ((cameL n xs).map encB).set b (.bool true) = (cameL n (xs ++ [b])).map encB := by
  refine List.ext_getElem (by rw [List.length_set, List.length_map, List.length_map, cameL_len, cameL_len]) fun i h1 h2 => ?_
  have hi : i < n := by rw [List.length_map, cameL_len] at h2; exact h2
  rw [List.getElem_set, List.getElem_map, List.getElem_map, cameL_get hi, cameL_get hi]
  by_cases h : b = i
  · subst h; rw [if_pos rfl]; unfold encB; simp
  · rw [if_neg h]
    have : ¬ i = b := fun e => h e.symm
    simp [this]
theorem cameL_nil (n : Nat) : (cameL n []).map encB = List.replicate n (.bool false) := by
  refine List.ext_getElem (by rw [List.length_map, cameL_len]; simp) fun i h1 h2 => ?_
  have hi : i < n := by rw [List.length_map, cameL_len] at h1; exact h1
  rw [List.getElem_map, cameL_get hi, List.getElem_replicate]
  unfold encB; simp
/-- While the least ones are taken. -/
def SelRel (ks : List Int) (w0 : World) (xs : List Nat) (v : Value) (w : World) : Prop :=
  Below w0.heap.size w0 w ∧ w.ownsRow (w0.heap.size + 1) 3 1 v xs.length ((zs xs).map encZ) ∧ RowIs w0.heap.size w ((cameL ks.length xs).map encB) ∧ w0.heap.size < w.heap.size
theorem SelRel.start (ks : List Int) (w : World) (T : TypeId) : SelRel ks w [] (.slice none 0 0) (w.alloc (.cells (madeCells #[.bool false] ks.length) T)) :=
  ⟨(Below.refl w.heap.size w).alloc (Nat.le_refl _) _, World.ownsRow_nil _ _ _ _, by rw [cameL_nil]; exact rowIs_made w (.bool false) ks.length T, by simp⟩
theorem SelRel.at {ks : List Int} {w0 w : World} {xs : List Nat} {v : Value} (h : SelRel ks w0 xs v w) {i : Nat} (hi : i < ks.length) :
    w.cell? ⟨w0.heap.size, i, none⟩ = some (.bool (decide (i ∈ xs))) ∧ w.frozen? ⟨w0.heap.size, i, none⟩ = false := by
  have := h.2.2.1 i (by rw [List.length_map, cameL_len]; exact hi)
  rw [List.getElem_map, cameL_get hi] at this
  exact this
theorem SelRel.drew {ks : List Int} {w0 w : World} {xs : List Nat} {v : Value} (h : SelRel ks w0 xs v w) (m : Nat) : SelRel ks w0 xs v (w.drewN m) :=
  ⟨below_drewN h.1 m, h.2.1, h.2.2.1, h.2.2.2⟩
/-- One more: its mark is set, and it is put behind the others. -/
theorem SelRel.step {ks : List Int} {w0 w w' : World} {xs : List Nat} {v v' : Value} {o : Obj} (h : SelRel ks w0 xs v w) {b : Nat} (hb : b < ks.length)
    (h1 : w'.ownsRow (w0.heap.size + 1) 3 1 v' (xs.length + 1) ((zs xs).map encZ ++ [encZ (b : Int)])) (hg : ((w.setCell ⟨w0.heap.size, b, none⟩ (.bool true)).alloc o).grownBy w' v.ownBlock) :
    SelRel ks w0 (xs ++ [b]) v' w' := by
  obtain ⟨k1, k2, k3, k4⟩ := h
  have hs : Below w0.heap.size w0 (w.setCell ⟨w0.heap.size, b, none⟩ (.bool true)) := k1.setCell (p := ⟨w0.heap.size, b, none⟩) (Nat.le_refl _) _
  have hlt : ∀ j, v.ownBlock = some j → w0.heap.size + 1 ≤ j := fun j hj => (k2.lt j hj).1
  refine ⟨(hs.alloc hs.size o).grown hg (hs.alloc hs.size o).size fun j hj => by have := hlt j hj; omega, ?_, ?_, ?_⟩
  · have e : (zs (xs ++ [b])).map encZ = (zs xs).map encZ ++ [encZ (b : Int)] := by unfold zs; simp
    rw [e, List.length_append]
    exact h1
  · rw [← cameL_set]
    refine row_same (k3.set (by rw [List.length_map, cameL_len]; exact hb) _) ?_
    refine (hg.block w0.heap.size (by simp; omega) (fun e => ?_)).trans (Below.heap_alloc _ _ _ (by simpa using k4))
    have := hlt _ e.symm
    omega
  · have := hg.size
    simp at this
    omega
set_option maxHeartbeats 2000000 in
theorem refBy_any (a : Option Addr) (c : Nat) (ks : List Int) (hk : ks.length ≤ 1000) (w : World) (hR : ReadsL encZ w.heap.size w a ks) :
    Calls Try.prog 8 #[.slice a ks.length c] w fun e w' => (∃ q cap, e = .returned (.slice q ks.length cap) ∧ ReadsL encZ w'.heap.size w' q (zs (byL ks))) ∧ Below w.heap.size w w' := by
  have HL := Lib.hid hR
  obtain ⟨i0, hi, hz0, hz1, hz2⟩ := info_int
  have hmk := makeRow (P := Try.prog) (T := 38) (E := 4) (z := .bool false) (c := 1) Try.underlying38 (by kernel_rfl) (by decide) rfl ks.length (by omega) w
  have HS : Hid (SelRel ks w [] (.slice none 0 0) (w.alloc (.cells (madeCells #[.bool false] ks.length) 4))) := Lib.hid (SelRel.start ks w 4)
  have HC := Lib.hid (Came.nil ks)
  clear hR
  go_enter Try.func8, Try.ntmps8
  go_wp2
  go_loopw [3, 5] (fun s i wr => ∃ (xs : List Nat) (v : Value), xs.length ≤ ks.length ∧ i = .int .i64 (xs.length : Nat) ∧ v = s ∧ Hid (SelRel ks w xs v wr ∧ Came ks xs)) (fun _ i _ => ks.length - (intOf i).toNat)
  case atStart => exact ⟨[], _, Nat.zero_le _, rfl, rfl, Lib.hid ⟨HS.out, HC.out⟩⟩
  case round =>
    obtain ⟨xs, v, hxn, rfl, rfl, HR⟩ := hrel
    by_cases hlt : xs.length < ks.length
    · have i1 : (xs.length : Int) < (ks.length : Int) := by omega
      have HX := Lib.hid hlt
      obtain ⟨W0, hW0⟩ : ∃ W0, W0 = wr := ⟨_, rfl⟩
      subst hW0
      have HSt := Lib.hid (Least.start ks xs)
      go_wp2
      go_loopw [6, 7] (fun t i wr2 => ∃ (j m : Nat) (z : Int), t = .int .i64 z ∧ i = .int .i64 j ∧ wr2 = W0.drewN m ∧ j ≤ ks.length ∧ Hid (Least ks xs j z)) (fun _ i _ => ks.length - (intOf i).toNat)
      case atStart => exact ⟨0, 0, -1, rfl, rfl, rfl, Nat.zero_le _, HSt⟩
      case round =>
        obtain ⟨j, m, z, rfl, rfl, rfl, hjn, HJ⟩ := hrel
        by_cases hj : j < ks.length
        · have i2 : (j : Int) < (ks.length : Int) := by omega
          obtain ⟨b, off, rfl, hbN, d1⟩ := (HL.out.on HR.out.1.1).at hj
          have d3 := (HR.out.1.at hj).1
          have hk4 := HR.out.1.2.2.2
          have hbl : b < W0.heap.size := by omega
          unfold encZ at d1
          by_cases hin : j ∈ xs
          · rw [decide_eq_true hin] at d3
            have HN := Lib.hid (HJ.out.came hin)
            clear hin
            go_wp2
            go_quiet (fail)
            go_wp2
            go_roundw
            case rel => exact ⟨j + 1, _, z, rfl, by go_num, rfl, by omega, HN⟩
            case measure => (simp [intOf] <;> omega)
          · rw [decide_eq_false hin] at d3
            by_cases hz : z < 0
            · have HN := Lib.hid (HJ.out.first hz hin)
              have t : decide (z < 0) = true := decide_eq_true hz
              clear hin
              go_wp2
              go_quiet (fail)
              go_wp2
              go_roundw
              case rel => exact ⟨j + 1, _, j, rfl, by go_num, rfl, by omega, HN⟩
              case measure => (simp [intOf] <;> omega)
            · obtain ⟨e, rfl⟩ : ∃ e : Nat, z = (e : Int) := ⟨z.toNat, by omega⟩
              have hen : e < ks.length := by
                rcases HJ.out with ⟨h1, _⟩ | ⟨e', h1, h2, _, _⟩
                · omega
                · omega
              have i3 : (e : Int) < (ks.length : Int) := by omega
              have t : decide ((e : Int) < 0) = false := decide_eq_false hz
              obtain ⟨b', off', hab, hbN', d2⟩ := (HL.out.on HR.out.1.1).at hen
              simp only [Option.some.injEq, Addr.mk.injEq, and_true] at hab
              obtain ⟨rfl, rfl⟩ := hab
              unfold encZ at d2
              have HLt : Hid (ks[j] < ks[e] → Least ks xs (j + 1) (j : Int)) := Lib.hid fun h => HJ.out.less hin (by rw [getD_at hj, getD_at hen]; exact h)
              have HNt : Hid (¬ ks[j] < ks[e] → Least ks xs (j + 1) (e : Int)) := Lib.hid fun h => HJ.out.not (by rw [getD_at hj, getD_at hen]; exact h)
              clear hin hz
              generalize ks[j] = x at *
              generalize ks[e] = y at *
              by_cases hxy : x < y
              · have t2 : decide (x < y) = true := decide_eq_true hxy
                have HN := Lib.hid (HLt.out hxy)
                go_wp2
                go_quiet (fail)
                go_wp2
                go_roundw
                case rel => exact ⟨j + 1, _, j, rfl, by go_num, rfl, by omega, HN⟩
                case measure => (simp [intOf] <;> omega)
              · have t2 : decide (x < y) = false := decide_eq_false hxy
                have HN := Lib.hid (HNt.out hxy)
                go_wp2
                go_quiet (fail)
                go_wp2
                go_roundw
                case rel => exact ⟨j + 1, _, e, rfl, by go_num, rfl, by omega, HN⟩
                case measure => (simp [intOf] <;> omega)
        · have hje : j = ks.length := by omega
          subst hje
          obtain ⟨b, rfl, hbl, hbn⟩ := HJ.out.there HX.out
          have HN : Hid (Came ks (xs ++ [b])) := Lib.hid (HR.out.2.step HJ.out)
          have HD : Hid (SelRel ks w xs v (W0.drewN m)) := Lib.hid (HR.out.1.drew m)
          obtain ⟨d3, f3⟩ := HD.out.at hbl
          have i2 : (b : Int) < (ks.length : Int) := by omega
          have hk4 := HD.out.2.2.2
          have hk1 := HD.out.1.size
          have HOw : Hid (((W0.drewN m).setCell ⟨w.heap.size, b, none⟩ (.bool true)).ownsRow (w.heap.size + 1) 3 1 v xs.length ((zs xs).map encZ)) := Lib.hid (owns_setCell HD.out.2.1 (by simp) _)
          clear hbn
          generalize W0.drewN m = W1 at *
          go_wp2_with (first
            | (at_builtin; refine wpList_append_own_at _ rfl _ _ 26 rfl (w.heap.size + 1) 3 i0 (.int .i64 0) 1 8 Try.underlying26 hi hz0 hz1 hz2 rfl (by decide) v xs.length ((zs xs).map encZ) rfl (HOw.out.alloc _) ⟨W1.heap.size, 0, none⟩ 1 1 [.int .i64 (b : Int)] rfl rfl (one_newsAt (by simp)) (by intro u hu; simp at hu; subst hu; rfl) (by unfold maxLen; omega) (by omega) (by simp; omega) ?_; intro v' w1 hown hgrow _ _))
          have HF : Hid (SelRel ks w (xs ++ [b]) v' w1) := Lib.hid (HD.out.step hbl hown hgrow)
          clear hown hgrow
          go_wp2
          go_roundw
          case rel => exact ⟨xs ++ [b], v', by simp; omega, by simp, rfl, Lib.hid ⟨HF.out, HN.out⟩⟩
          case measure => (simp [intOf] <;> omega)
    · have hke : xs.length = ks.length := by omega
      have HW := Lib.hid (And.intro (HR.out.2.whole hke) hke)
      go_wp2
      go_ret
      obtain ⟨q, cap, rfl, hr, -⟩ := owns_readsL (l := zs xs) (by rw [zs_len]) HR.out.1.2.1
      rw [HW.out.1, zs_len, byL_len] at *
      exact ⟨⟨q, cap, rfl, hr⟩, HR.out.1.1⟩
end Go.Proofs.Ytemcbhbobfjnkaa
