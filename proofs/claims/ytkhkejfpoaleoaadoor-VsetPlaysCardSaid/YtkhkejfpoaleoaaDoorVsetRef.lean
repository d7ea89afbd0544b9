/- The document's answers of layer 9, at every argument: a room, and which vertices are in it. -/
import Derived.Test.YtkhkejfpoaleoaaDoorVsetOf
namespace Go.Proofs.YtkhkejfpoaleoaaDoor
open Go.RowKit Go.ChangeShapes VsetPure
def encB (b : Bool) : Value := .bool b
/-- The list of truths that the document's set holds. -/
def inL (m : Nat) (p : Nat → Bool) : List Bool := (List.range m).map p
theorem inL_len (m : Nat) (p : Nat → Bool) : (inL m p).length = m := by simp [inL]
theorem inL_at {m k : Nat} (p : Nat → Bool) (h : k < (inL m p).length) : (inL m p)[k] = p k := by simp [inL]
def RefAt (w : World) (a : Option Addr) (m : Nat) (p : Nat → Bool) : Prop := ReadsL encB w.heap.size w a (inL m p)
theorem RefAt.keep {w w' : World} {a : Option Addr} {m : Nat} {p : Nat → Bool} (h : RefAt w a m p) (hb : Below w.heap.size w w') : RefAt w' a m p := ReadsL.over h hb (Nat.le_refl _)
theorem RefAt.at {w : World} {a : Option Addr} {m : Nat} {p : Nat → Bool} (h : RefAt w a m p) {k : Nat} (hk : k < m) : ∃ b off, a = some ⟨b, off, none⟩ ∧ b < w.heap.size ∧ w.cell? ⟨b, off + k, none⟩ = some (.bool (p k)) := by
  obtain ⟨b, off, h1, h2, h3⟩ := ReadsL.at h (k := k) (by rw [inL_len]; exact hk)
  rw [inL_at] at h3
  exact ⟨b, off, h1, h2, h3⟩
/-- A fresh list of truths, as a call fills it place by place. -/
theorem row_ref {h m : Nat} {w : World} {p : Nat → Bool} (hr : RowIs h w ((inL m p).map encB)) : RefAt w (some ⟨h, 0, none⟩) m p := RowIs.reads hr
theorem inL_none (m : Nat) : (inL m noneP).map encB = List.replicate m (.bool false) := by
  apply List.ext_getElem
  · simp [inL]
  · intro i h1 h2
    simp [inL, encB, noneP]
theorem inL_set (m : Nat) (p q : Nat → Bool) {k : Nat} (hk : k < m) (b : Bool) (h1 : q k = b) (h2 : ∀ v, v ≠ k → q v = p v) : ((inL m p).map encB).set k (.bool b) = (inL m q).map encB := by
  apply List.ext_getElem
  · simp [inL]
  · intro i h3 h4
    by_cases e : k = i
    · subst e
      simp [inL, encB, h1]
    · rw [List.getElem_set_ne e]
      simp [inL, encB, h2 i (fun x => e x.symm)]
theorem roomRef_any (n : Int) (w : World) :
    Calls Tryd.prog 27 #[.int .i64 n] w fun e w' => e = .returned (.int .i64 (roomN n : Int)) ∧ w = w' := by
  have HR := Lib.hid (show (roomN n : Int) = max 0 (min n 4096) by unfold roomN; omega)
  by_cases a : n < 0
  · have a2 : min n 4096 = n := by omega
    have HR2 : Hid ((roomN n : Int) = 0) := Lib.hid (by unfold roomN; omega)
    go_enter Tryd.func27, Tryd.ntmps27
    go_wp2
    go_ret
    exact ⟨ret_i (by rw [HR2.out]), rfl⟩
  · by_cases b : n < 4096
    · have HR2 : Hid ((roomN n : Int) = n) := Lib.hid (by unfold roomN; omega)
      go_enter Tryd.func27, Tryd.ntmps27
      go_wp2
      all_goals (go_ret; exact ⟨ret_i (by first | exact HR2.out.symm | (rw [HR2.out]; omega)), rfl⟩)
    · have HR2 : Hid ((roomN n : Int) = 4096) := Lib.hid (by unfold roomN; omega)
      go_enter Tryd.func27, Tryd.ntmps27
      go_wp2
      all_goals (go_ret; exact ⟨ret_i (by first | exact HR2.out.symm | (rw [HR2.out]; omega)), rfl⟩)
theorem make_bools (k : Nat) (hk : k ≤ 1000000) (w : World) :
    (Instr.makeSlice 26 (.int .i64 (k : Int)) (.int .i64 (k : Int))).run Tryd.prog w = .ok (.slice (some ⟨w.heap.size, 0, none⟩) k k) (w.alloc (.cells (madeCells #[.bool false] k) 4)) :=
  makeRow Tryd.underlying26 (z := .bool false) (c := 1) (by kernel_rfl) (by omega) rfl k hk w
theorem newRef_any (n : Int) (w : World) :
    Calls Tryd.prog 8 #[.int .i64 n] w fun e w' => ∃ h, e = .returned (.agg #[.int .i64 (roomN n : Int), .slice (some ⟨h, 0, none⟩) (roomN n) (roomN n)]) ∧ Below w.heap.size w w' ∧ w.heap.size ≤ h ∧ h < w'.heap.size ∧ RowIs h w' ((inL (roomN n) noneP).map encB) := by
  have h4 := roomN_le n
  have hR := fun w => roomRef_any n w
  generalize roomN n = m at *
  have HR := Lib.hid hR
  clear hR
  have hmk := fun w => make_bools m (by omega) w
  go_enter Tryd.func8, Tryd.ntmps8
  go_wp2_with (first | (go_at_call 27; refine (HR.out _).mono ?_; rintro e w' ⟨rfl, rfl⟩))
  have hB := ((Below.refl _ w).alloc (Nat.le_refl _) (.cells #[.int .i64 (m : Int), .slice (some ⟨w.heap.size + 1, 0, none⟩) m m] 28)).alloc (by simp) (.cells (madeCells #[.bool false] m) 4)
  have hRow := rowIs_made (w.alloc (.cells #[.int .i64 (m : Int), .slice (some ⟨w.heap.size + 1, 0, none⟩) m m] 28)) (.bool false) m 4
  rw [World.size_alloc] at hRow
  refine bodyPost_ret (v := .agg #[.int .i64 (m : Int), .slice (some ⟨w.heap.size + 1, 0, none⟩) m m]) (by simp [results, Tryd.results8, go_sem]) rfl ⟨_, rfl, hB, by omega, by simp, by rw [inL_none]; exact hRow⟩
theorem hasRef_any (m : Nat) (p : Nat → Bool) (a : Option Addr) (cap : Nat) (v : Int) (w : World) (h : RefAt w a m p) :
    Calls Tryd.prog 10 #[.agg #[.int .i64 (m : Int), .slice a m cap], .int .i64 v] w fun e w' => e = .returned (.bool (fitB m v && p v.toNat)) ∧ Below w.heap.size w w' := by
  have hF := Lib.hid (show fitB m v = (decide (0 ≤ v) && decide (v < m)) from rfl)
  have HB : ∀ c, Hid (Below w.heap.size w (w.alloc c)) := fun c => Lib.hid ((Below.refl _ w).alloc (Nat.le_refl _) c)
  have HB2 := Lib.hid HB
  clear HB
  by_cases h0 : 0 ≤ v
  · have t1 : decide (v ≥ 0) = true := decide_eq_true h0
    by_cases h1 : v < m
    · have t2 : decide (v < (m : Int)) = true := decide_eq_true h1
      obtain ⟨u, rfl⟩ := Int.eq_ofNat_of_zero_le h0
      obtain ⟨b, off, rfl, hbN, c0⟩ := h.at (k := u) (by omega)
      have hR : Hid ((fitB m (u : Int) && p (u : Int).toNat) = p u) := Lib.hid (by rw [hF.out, decide_eq_true h0, t2]; rfl)
      have c1 : ∀ o, (w.alloc o).cell? ⟨b, off + u, none⟩ = some (.bool (p u)) := fun o => (((Below.refl w.heap.size w).alloc (Nat.le_refl _) o).cell (by exact hbN)).trans c0
      clear h
      generalize p u = x at *
      go_enter Tryd.func10, Tryd.ntmps10
      go_wp2
      go_ret
      exact ⟨bool_ret (by rw [hR.out]), (HB2.out _).out⟩
    · have t2 : decide (v < (m : Int)) = false := decide_eq_false h1
      have hR : Hid (fitB m v = false) := Lib.hid (by rw [hF.out, t2, Bool.and_false])
      go_enter Tryd.func10, Tryd.ntmps10
      go_wp2
      go_ret
      exact ⟨bool_ret (by rw [hR.out]; rfl), (HB2.out _).out⟩
  · have t1 : decide (v ≥ 0) = false := decide_eq_false h0
    have hR : Hid (fitB m v = false) := Lib.hid (by rw [hF.out, decide_eq_false h0, Bool.false_and])
    go_enter Tryd.func10, Tryd.ntmps10
    go_wp2
    go_ret
    exact ⟨bool_ret (by rw [hR.out]; rfl), (HB2.out _).out⟩
/-- At the head of a round: the vertices so far, gathered. -/
def LRel (w0 : World) (B m : Nat) (a : Option Addr) (cap : Nat) (p : Nat → Bool) (k : Nat) (v : Value) (w : World) : Prop :=
  k ≤ m ∧ GrowRel encN 3 w0 (listP p k) v w ∧ TwoAt B w (.int .i64 (m : Int)) (.slice a m cap) ∧ RefAt w a m p
theorem LRel.yes {w0 w w' : World} {B m cap k : Nat} {a : Option Addr} {p : Nat → Bool} {v v' : Value} {o : Obj} (h : LRel w0 B m a cap p k v w) (hk : k < m) (hp : p k = true) (hB : B < w0.heap.size) (hA : ReadsL encB w0.heap.size w0 a (inL m p))
    (h1 : w'.ownsRow w0.heap.size 3 1 v' ((listP p k).length + 1) ((listP p k).map encN ++ [encN k])) (hg : (w.alloc o).grownBy w' v.ownBlock) (ht : TwoAt B w0 (.int .i64 (m : Int)) (.slice a m cap)) : LRel w0 B m a cap p (k + 1) v' w' := by
  have h2 := h.2.1.step k h1 hg
  have e : listP p (k + 1) = listP p k ++ [k] := by rw [listP_succ, hp]; rfl
  exact ⟨hk, by rw [e]; exact h2, ht.on h2.1 hB, ReadsL.over hA h2.1 (Nat.le_refl _)⟩
theorem LRel.no {w0 w : World} {B m cap k : Nat} {a : Option Addr} {p : Nat → Bool} {v : Value} (h : LRel w0 B m a cap p k v w) (hk : k < m) (hp : p k = false) : LRel w0 B m a cap p (k + 1) v w :=
  ⟨hk, by rw [show listP p (k + 1) = listP p k by rw [listP_succ, hp]; exact List.append_nil _]; exact h.2.1, h.2.2.1, h.2.2.2⟩
set_option maxHeartbeats 1000000 in
theorem listRef_any (m : Nat) (hm : m ≤ 4096) (p : Nat → Bool) (a : Option Addr) (cap : Nat) (w : World) (h : RefAt w a m p) :
    Calls Tryd.prog 22 #[.agg #[.int .i64 (m : Int), .slice a m cap]] w fun e w' => ∃ q c, e = .returned (.slice q (listP p m).length c) ∧ ReadsL encN w'.heap.size w' q (listP p m) ∧ Below w.heap.size w w' := by
  obtain ⟨i0, hi, hz0, hz1, hz2⟩ := info_parts (show (Tryd.prog.info? 3).map (fun i => (i.zero, i.size, i.bytes)) = some (some (.int .i64 0), 1, 8) by kernel_rfl)
  have hB0 := (Below.refl w.heap.size w).alloc (Nat.le_refl _) (.cells #[.int .i64 (m : Int), .slice a m cap] 28)
  have hT0 := TwoAt.new w (.int .i64 (m : Int)) (.slice a m cap) 28
  have hA0 := h.keep hB0
  have hsz : w.heap.size < (w.alloc (.cells #[.int .i64 (m : Int), .slice a m cap] 28)).heap.size := by simp
  go_enter Tryd.func22, Tryd.ntmps22
  go_wp2
  generalize (w.alloc (.cells #[.int .i64 (m : Int), .slice a m cap] 28)) = W0 at *
  have HB0 := Lib.hid hB0
  have HSZ := Lib.hid hsz
  have HT0 := Lib.hid hT0
  have HA0 := Lib.hid hA0
  have HL : Hid (LRel W0 w.heap.size m a cap p 0 (.slice none 0 0) W0) := Lib.hid ⟨Nat.zero_le _, GrowRel.start _ _ _, hT0, hA0⟩
  clear hB0 hsz hT0 hA0 h
  go_loopw [3, 4] (fun v i wr => ∃ k : Nat, i = .int .i64 k ∧ Hid (LRel W0 w.heap.size m a cap p k v wr)) (fun _ i _ => m - (intOf i).toNat)
  case atStart => exact ⟨0, rfl, HL⟩
  case round =>
    rename_i u3 _
    obtain ⟨k, rfl, HK⟩ := hrel
    have hk := HK.out.1
    have i0' : (0 : Int) ≤ (k : Int) := by omega
    have c0 := HK.out.2.2.1.1
    have c1 := HK.out.2.2.1.2.1
    by_cases hlt : k < m
    · obtain ⟨b, off, rfl, hbN, d0⟩ := HK.out.2.2.2.at hlt
      have i1 : (k : Int) < (m : Int) := by omega
      cases hp : p k
      · have HN := Lib.hid (HK.out.no hlt hp)
        rw [hp] at d0
        clear hp
        go_wp2
        go_roundw
        case rel => exact ⟨k + 1, by go_num, HN⟩
        case measure => (simp [intOf] <;> omega)
      · have HP := Lib.hid hp
        rw [hp] at d0
        have hlen := listP_len p k
        have hsz2 := HK.out.2.1.1.size
        clear hp
        go_wp2_with (first | (at_builtin; refine wpList_append_own _ rfl _ _ 39 rfl W0.heap.size 3 i0 (.int .i64 0) 1 8 Tryd.underlying39 hi hz0 hz1 hz2 rfl (by decide) _ (listP p k).length ((listP p k).map encN) rfl (HK.out.2.1.2.alloc _) ⟨wr.heap.size, 0, none⟩ 1 1 [.int .i64 (k : Int)] rfl rfl (one_newsAt rfl) (by intro u hu; simp at hu; subst hu; rfl) (by unfold maxLen; omega) (by omega) (by simp; omega) ?_; intro v1 w1 hown hgr _; have HN := Lib.hid (HK.out.yes hlt HP.out HSZ.out HA0.out hown hgr HT0.out); clear hown hgr))
        go_roundw
        case rel => exact ⟨k + 1, by go_num, HN⟩
        case measure => (simp [intOf] <;> omega)
    · have hke : k = m := by omega
      subst hke
      obtain ⟨q, c, hv, hr, -⟩ := HK.out.2.1.reads
      have HR := Lib.hid hr
      have HBel := Lib.hid (HB0.out.trans (HK.out.2.1.1.mono (Nat.le_of_lt HSZ.out)))
      subst hv
      clear hr
      go_wp2
      go_ret
      exact ⟨q, c, rfl, HR.out, HBel.out⟩
end Go.Proofs.YtkhkejfpoaleoaaDoor
