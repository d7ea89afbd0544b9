/- The document's sets of layer 9, beside no set of the program's: a room, a new set, its list; which of the first numbers are in, rising. -/
import Derived.Test.YthiabjmnbkhehaaDoorTurn
import Derived.Test.YthiabjmnbkhehaaDoorList
import Derived.Test.YthiabjmnbkhehaaDoorCells
namespace Go.Proofs.YthiabjmnbkhehaaDoor.R9
open Go.RowKit Go.ChangeShapes
/-- The room that is made where n is asked for. -/
def roomN (n : Int) : Nat := (min (max n 0) 4096).toNat
theorem roomN_le (n : Int) : roomN n ≤ 4096 := by unfold roomN; omega
theorem roomN_of (n : Nat) (h : n ≤ 4096) : roomN (n : Int) = n := by unfold roomN; omega
def noneP (_ : Nat) : Bool := false
/-- Which of the first numbers are in, rising. -/
def upP (p : Nat → Bool) : Nat → List Int
  | 0 => []
  | k + 1 => upP p k ++ (if p k then [(k : Int)] else [])
theorem upP_yes {p : Nat → Bool} {k : Nat} (h : p k = true) : upP p (k + 1) = upP p k ++ [(k : Int)] := by show upP p k ++ _ = _; rw [h]; rfl
theorem upP_no {p : Nat → Bool} {k : Nat} (h : p k = false) : upP p (k + 1) = upP p k := by show upP p k ++ _ = _; rw [h]; exact List.append_nil _
theorem upP_len (p : Nat → Bool) (k : Nat) : (upP p k).length ≤ k := by
  induction k with
  | zero => exact Nat.le_refl _
  | succ k ih =>
    cases h : p k
    · rw [upP_no h]; omega
    · rw [upP_yes h, List.length_append, List.length_singleton]; omega
theorem upP_congr {p q : Nat → Bool} {k : Nat} (h : ∀ v, v < k → p v = q v) : upP p k = upP q k := by
  induction k with
  | zero => rfl
  | succ k ih =>
    show upP p k ++ _ = upP q k ++ _
    rw [ih (fun v hv => h v (by omega)), h k (by omega)]
def encB (b : Bool) : Value := .bool b
/-- The list of truths that the document's set holds. -/
def inL (m : Nat) (p : Nat → Bool) : List Bool := (List.range m).map p
theorem inL_len (m : Nat) (p : Nat → Bool) : (inL m p).length = m := by simp [inL]
theorem inL_at {m k : Nat} (p : Nat → Bool) (h : k < (inL m p).length) : (inL m p)[k] = p k := by simp [inL]
def RefAt (w : World) (a : Option Addr) (m : Nat) (p : Nat → Bool) : Prop := ReadsL encB w.heap.size w a (inL m p)
theorem RefAt.keep {w w' : World} {a : Option Addr} {m : Nat} {p : Nat → Bool} (h : RefAt w a m p) (hb : Below w.heap.size w w') : RefAt w' a m p := ReadsL.over h hb (Nat.le_refl _)
theorem RefAt.at {w : World} {a : Option Addr} {m : Nat} {p : Nat → Bool} (h : RefAt w a m p) {k : Nat} (hk : k < m) : ∃ b off, a = some ⟨b, off, none⟩ ∧ b < w.heap.size ∧ w.cell? ⟨b, off + k, none⟩ = some (.bool (p k)) := by
  obtain ⟨b, off, h1, h2, h3⟩ := ReadsL.at h (k := k) (by rw [inL_len]; exact hk)
  rw [inL_at] at h3
  exact ⟨b, off, h1, h2, h3⟩
/-- A fresh list of truths, as a call fills it place by place. -/
theorem row_ref {h m : Nat} {w : World} {p : Nat → Bool} (hr : RowIs h w ((inL m p).map encB)) : RefAt w (some ⟨h, 0, none⟩) m p := RowIs.reads hr
theorem inL_none (m : Nat) : (inL m noneP).map encB = List.replicate m (.bool false) := by
  apply List.ext_getElem
  · simp [inL]
  · intro i h1 h2
    simp [inL, encB, noneP]
theorem inL_set (m : Nat) (p q : Nat → Bool) {k : Nat} (hk : k < m) (b : Bool) (h1 : q k = b) (h2 : ∀ v, v ≠ k → q v = p v) : ((inL m p).map encB).set k (.bool b) = (inL m q).map encB := by
  apply List.ext_getElem
  · simp [inL]
  · intro i h3 h4
    by_cases e : k = i
    · subst e
      simp [inL, encB, h1]
    · rw [List.getElem_set_ne e]
      simp [inL, encB, h2 i (fun x => e x.symm)]
theorem roomRef_any (n : Int) (w : World) :
    Calls Tryd.prog 18 #[.int .i64 n] w fun e w' => e = .returned (.int .i64 (roomN n : Int)) ∧ w = w' := by
  have HR := Lib.hid (show (roomN n : Int) = max 0 (min n 4096) by unfold roomN; omega)
  by_cases a : n < 0
  · have a2 : min n 4096 = n := by omega
    have HR2 : Hid ((roomN n : Int) = 0) := Lib.hid (by unfold roomN; omega)
    go_enter Tryd.func18, Tryd.ntmps18
    go_wp2
    go_ret
    exact ⟨ret_i (by rw [HR2.out]), rfl⟩
  · by_cases b : n < 4096
    · have HR2 : Hid ((roomN n : Int) = n) := Lib.hid (by unfold roomN; omega)
      go_enter Tryd.func18, Tryd.ntmps18
      go_wp2
      all_goals (go_ret; exact ⟨ret_i (by first | exact HR2.out.symm | (rw [HR2.out]; omega)), rfl⟩)
    · have HR2 : Hid ((roomN n : Int) = 4096) := Lib.hid (by unfold roomN; omega)
      go_enter Tryd.func18, Tryd.ntmps18
      go_wp2
      all_goals (go_ret; exact ⟨ret_i (by first | exact HR2.out.symm | (rw [HR2.out]; omega)), rfl⟩)
theorem make_bools (k : Nat) (hk : k ≤ 1000000) (w : World) :
    (Instr.makeSlice 58 (.int .i64 (k : Int)) (.int .i64 (k : Int))).run Tryd.prog w = .ok (.slice (some ⟨w.heap.size, 0, none⟩) k k) (w.alloc (.cells (madeCells #[.bool false] k) 4)) :=
  makeRow Tryd.underlying58 (z := .bool false) (c := 1) (by kernel_rfl) (by omega) rfl k hk w
theorem newRef_any (n : Int) (w : World) :
    Calls Tryd.prog 26 #[.int .i64 n] w fun e w' => ∃ h, e = .returned (.agg #[.int .i64 (roomN n : Int), .slice (some ⟨h, 0, none⟩) (roomN n) (roomN n)]) ∧ Below w.heap.size w w' ∧ w.heap.size ≤ h ∧ h < w'.heap.size ∧ RowIs h w' ((inL (roomN n) noneP).map encB) := by
  have h4 := roomN_le n
  have hR := fun w => roomRef_any n w
  generalize roomN n = m at *
  have HR := Lib.hid hR
  clear hR
  have hmk := fun w => make_bools m (by omega) w
  go_enter Tryd.func26, Tryd.ntmps26
  go_wp2_with (first | (go_at_call 18; refine (HR.out _).mono ?_; rintro e w' ⟨rfl, rfl⟩))
  have hB := ((Below.refl _ w).alloc (Nat.le_refl _) (.cells #[.int .i64 (m : Int), .slice (some ⟨w.heap.size + 1, 0, none⟩) m m] 60)).alloc (by simp) (.cells (madeCells #[.bool false] m) 4)
  have hRow := rowIs_made (w.alloc (.cells #[.int .i64 (m : Int), .slice (some ⟨w.heap.size + 1, 0, none⟩) m m] 60)) (.bool false) m 4
  rw [World.size_alloc] at hRow
  refine bodyPost_ret (v := .agg #[.int .i64 (m : Int), .slice (some ⟨w.heap.size + 1, 0, none⟩) m m]) (by simp [results, Tryd.results26, go_sem]) rfl ⟨_, rfl, hB, by omega, by simp, by rw [inL_none]; exact hRow⟩
/-- At the head of a round: the vertices so far, gathered. -/
def LRel (w0 : World) (B m : Nat) (a : Option Addr) (cap : Nat) (p : Nat → Bool) (k : Nat) (v : Value) (w : World) : Prop :=
  k ≤ m ∧ GrowRel encZ 3 w0 (upP p k) v w ∧ TwoAt B w (.int .i64 (m : Int)) (.slice a m cap) ∧ RefAt w a m p
theorem LRel.yes {w0 w w' : World} {B m cap k : Nat} {a : Option Addr} {p : Nat → Bool} {v v' : Value} {o : Obj} (h : LRel w0 B m a cap p k v w) (hk : k < m) (hp : p k = true) (hB : B < w0.heap.size) (hA : ReadsL encB w0.heap.size w0 a (inL m p))
    (h1 : w'.ownsRow w0.heap.size 3 1 v' ((upP p k).length + 1) ((upP p k).map encZ ++ [encZ (k : Int)])) (hg : (w.alloc o).grownBy w' v.ownBlock) (ht : TwoAt B w0 (.int .i64 (m : Int)) (.slice a m cap)) : LRel w0 B m a cap p (k + 1) v' w' := by
  have h2 := h.2.1.step (k : Int) h1 hg
  have e : upP p (k + 1) = upP p k ++ [(k : Int)] := upP_yes hp
  exact ⟨hk, by rw [e]; exact h2, ht.on h2.1 hB, ReadsL.over hA h2.1 (Nat.le_refl _)⟩
theorem LRel.no {w0 w : World} {B m cap k : Nat} {a : Option Addr} {p : Nat → Bool} {v : Value} (h : LRel w0 B m a cap p k v w) (hk : k < m) (hp : p k = false) : LRel w0 B m a cap p (k + 1) v w :=
  ⟨hk, by rw [upP_no hp]; exact h.2.1, h.2.2.1, h.2.2.2⟩
set_option maxHeartbeats 1000000 in
theorem listRef_any (m : Nat) (hm : m ≤ 4096) (p : Nat → Bool) (a : Option Addr) (cap : Nat) (w : World) (h : RefAt w a m p) :
    Calls Tryd.prog 27 #[.agg #[.int .i64 (m : Int), .slice a m cap]] w fun e w' => ∃ q c, e = .returned (.slice q (upP p m).length c) ∧ ReadsL encZ w'.heap.size w' q (upP p m) ∧ Below w.heap.size w w' := by
  obtain ⟨i0, hi, hz0, hz1, hz2⟩ := info_of (show (Tryd.prog.info? 3).map (fun i => (i.zero, i.size, i.bytes)) = some (some (.int .i64 0), 1, 8) by kernel_rfl)
  have hB0 := (Below.refl w.heap.size w).alloc (Nat.le_refl _) (.cells #[.int .i64 (m : Int), .slice a m cap] 60)
  have hT0 := TwoAt.new w (.int .i64 (m : Int)) (.slice a m cap) 60
  have hA0 := h.keep hB0
  have hsz : w.heap.size < (w.alloc (.cells #[.int .i64 (m : Int), .slice a m cap] 60)).heap.size := by simp
  go_enter Tryd.func27, Tryd.ntmps27
  go_wp2
  generalize (w.alloc (.cells #[.int .i64 (m : Int), .slice a m cap] 60)) = W0 at *
  have HB0 := Lib.hid hB0
  have HSZ := Lib.hid hsz
  have HT0 := Lib.hid hT0
  have HA0 := Lib.hid hA0
  have HL : Hid (LRel W0 w.heap.size m a cap p 0 (.slice none 0 0) W0) := Lib.hid ⟨Nat.zero_le _, GrowRel.start _ _ _, hT0, hA0⟩
  clear hB0 hsz hT0 hA0 h
  go_loopw [3, 4] (fun v i wr => ∃ k : Nat, i = .int .i64 k ∧ Hid (LRel W0 w.heap.size m a cap p k v wr)) (fun _ i _ => m - (intOf i).toNat)
  case atStart => exact ⟨0, rfl, HL⟩
  case round =>
    rename_i u3 _
    obtain ⟨k, rfl, HK⟩ := hrel
    have hk := HK.out.1
    have i0' : (0 : Int) ≤ (k : Int) := by omega
    have c0 := HK.out.2.2.1.1
    have c1 := HK.out.2.2.1.2.1
    by_cases hlt : k < m
    · obtain ⟨b, off, rfl, hbN, d0⟩ := HK.out.2.2.2.at hlt
      have i1 : (k : Int) < (m : Int) := by omega
      cases hp : p k
      · have HN := Lib.hid (HK.out.no hlt hp)
        rw [hp] at d0
        clear hp
        go_wp2
        go_roundw
        case rel => exact ⟨k + 1, by go_num, HN⟩
        case measure => (simp [intOf] <;> omega)
      · have HP := Lib.hid hp
        rw [hp] at d0
        have hlen := upP_len p k
        have hsz2 := HK.out.2.1.1.size
        clear hp
        go_wp2_with (first | (at_builtin; refine wpList_append_own _ rfl _ _ 38 rfl W0.heap.size 3 i0 (.int .i64 0) 1 8 Tryd.underlying38 hi hz0 hz1 hz2 rfl (by decide) _ (upP p k).length ((upP p k).map encZ) rfl (HK.out.2.1.2.alloc _) ⟨wr.heap.size, 0, none⟩ 1 1 [.int .i64 (k : Int)] rfl rfl (one_newsAt rfl) (by intro u hu; simp at hu; subst hu; rfl) (by unfold maxLen; omega) (by omega) (by simp; omega) ?_; intro v1 w1 hown hgr _; have HN := Lib.hid (HK.out.yes hlt HP.out HSZ.out HA0.out hown hgr HT0.out); clear hown hgr))
        go_roundw
        case rel => exact ⟨k + 1, by go_num, HN⟩
        case measure => (simp [intOf] <;> omega)
    · have hke : k = m := by omega
      subst hke
      obtain ⟨q, c, hv, hr, -⟩ := HK.out.2.1.reads
      have HR := Lib.hid hr
      have HBel := Lib.hid (HB0.out.trans (HK.out.2.1.1.mono (Nat.le_of_lt HSZ.out)))
      subst hv
      clear hr
      go_wp2
      go_ret
      exact ⟨q, c, rfl, HR.out, HBel.out⟩
end Go.Proofs.YthiabjmnbkhehaaDoor.R9
