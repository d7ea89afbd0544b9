/- Texts that the laws of this seat stand on, part 9. -/
import Derived.Test.YtceejjgmepaonaaGreatDoorPk4
import Derived.Test.YtceejjgmepaonaaGreatDoorPk7
import Derived.Test.YtceejjgmepaonaaGreatDoorPk8
import Derived.Laws.BitsLemmas
import Derived.Test.YtceejjgmepaonaaGreatDoorPk5
import Derived.Laws.BitsAllLaws
import Derived.Deep.RegionWith
import Derived.Deep.QuietTactic
import Derived.BigQuiet
import Derived.BigRegion
/- The document's sides in order, and why there is no least cut (layer 22). -/
namespace Go.Proofs.YtceejjgmepaonaaGreatDoor.Br
open Go.RowKit Go.ChangeShapes EdPure SdPure BrPure Cm
def smallE (n : Int) : Int := if n < 2 then 9 else if 20 < n then 3 else 0
theorem refSmall_any (n : Int) (w : World) : Calls Tryz.prog 27 #[.int .i64 n] w fun e w' => e = .returned (.int .i64 (smallE n)) ∧ w = w' := by
  unfold smallE
  by_cases h1 : n < 2
  · rw [if_pos h1]
    go_enter Tryz.func27, Tryz.ntmps27
    go_wp2
    go_ret
    exact ⟨rfl, rfl⟩
  · rw [if_neg h1]
    by_cases h2 : 20 < n
    · rw [if_pos h2]
      go_enter Tryz.func27, Tryz.ntmps27
      go_wp2
      go_ret
      exact ⟨rfl, rfl⟩
    · rw [if_neg h2]
      go_enter Tryz.func27, Tryz.ntmps27
      go_wp2
      go_ret
      exact ⟨rfl, rfl⟩
def bothE (n s t : Int) : Int := if 0 ≤ s ∧ s < n ∧ 0 ≤ t ∧ t < n then (if s = t then 6 else 0) else 4
/-- The last bit. -/
theorem bit_last (x : Int) (h0 : 0 ≤ x) (h1 : x < 1048576) : bits .and .i64 x 1 = x % 2 := by
  have hk : ∀ n : Int, 0 ≤ n → n < 2 ^ 63 → IntKind.i64.wrap n = n := fun n h1 h2 => by rw [IntKind.wrap_i64]; omega
  have := bits_mask .i64 63 (by decide) hk 1 (by decide) x h0 (by omega)
  simpa using this
theorem bit_test (m k : Nat) (hm : m < 1048576) : (bits .and .i64 ((m : Int) / 2 ^ k) 1 == 1) = m.testBit k := by
  have e : ((m : Int) / 2 ^ k) = ((m / 2 ^ k : Nat) : Int) := by simp
  have hlt : m / 2 ^ k ≤ m := Nat.div_le_self _ _
  rw [e, Nat.testBit_eq_decide_div_mod_eq]
  generalize m / 2 ^ k = y at *
  rw [bit_last _ (by omega) (by omega)]
  have h2 : y % 2 = 0 ∨ y % 2 = 1 := by omega
  have e2 : ((y : Int) % 2) = ((y % 2 : Nat) : Int) := by omega
  rw [e2]
  rcases h2 with h | h <;> rw [h] <;> rfl
def SdsSt (w : World) (n j : Nat) (v : Value) (vs : List Value) (wr : World) : Prop := Below w.heap.size w wr ∧ LAt w.heap.size wr v vs (sideL n j)
theorem SdsSt.keep {w : World} {n j : Nat} {v : Value} {vs : List Value} {wr w' : World} (h : SdsSt w n j v vs wr) (hb : Below wr.heap.size wr w') : SdsSt w n j v vs w' := ⟨h.1.trans (hb.mono h.1.size), h.2.keep hb⟩
/-- Rows that a call made itself. -/
def RowsO (L : List (List Int)) (w : World) (e : Ending) (w' : World) : Prop := Below w.heap.size w w' ∧ ∃ q d, e = .returned (.slice q L.length d) ∧ RowsAt w.heap.size w' q L
theorem info_rows : (Tryz.prog.info? 28).map (fun i => (i.zero, i.size, i.bytes)) = some (some (.slice none 0 0), 1, 24) := by kernel_rfl
/-- While a side is gathered from the world W0 on, beside those ahead. -/
def SdIn (w W0 : World) (n j k : Nat) (v : Value) (vs : List Value) (u : Value) (wr : World) : Prop := SdsSt w n j v vs W0 ∧ GrowRel encZ 3 W0 (bitS (j + 1) k) u wr
theorem SdIn.step {w W0 wr w' : World} {n j k : Nat} {v u u' : Value} {vs : List Value} {o : Obj} (h : SdIn w W0 n j k v vs u wr) (hb : (j + 1).testBit k = true)
    (hown : w'.ownsRow W0.heap.size 3 1 u' ((bitS (j + 1) k).length + 1) ((bitS (j + 1) k).map encZ ++ [.int .i64 ((k : Int) + 1)])) (hg : (wr.alloc o).grownBy w' u.ownBlock) : SdIn w W0 n j (k + 1) v vs u' w' := by
  have e : bitS (j + 1) (k + 1) = bitS (j + 1) k ++ [(k : Int) + 1] := by
    show bitS (j + 1) k ++ _ = _
    rw [if_pos hb, show ((k + 1 : Nat) : Int) = (k : Int) + 1 by omega]
  refine ⟨h.1, ?_⟩
  rw [e]
  exact h.2.step ((k : Int) + 1) hown hg
theorem SdIn.skip {w W0 wr : World} {n j k : Nat} {v u : Value} {vs : List Value} (h : SdIn w W0 n j k v vs u wr) (hb : (j + 1).testBit k = false) : SdIn w W0 n j (k + 1) v vs u wr := by
  have e : bitS (j + 1) (k + 1) = bitS (j + 1) k := by
    show bitS (j + 1) k ++ _ = _
    rw [if_neg (by rw [hb]; decide), List.append_nil]
  refine ⟨h.1, ?_⟩
  rw [e]
  exact h.2
theorem SdIn.push {w W0 wr w' : World} {n j : Nat} {v v' u : Value} {vs : List Value} {o : Obj} (h : SdIn w W0 n j (n - 1) v vs u wr)
    (hown : w'.ownsRow w.heap.size 28 1 v' ((sideL n j).length + 1) (vs ++ [u])) (hg : (wr.alloc o).grownBy w' v.ownBlock) (hat : v'.ownBlock = v.ownBlock ∨ v'.ownBlock = some (wr.alloc o).heap.size) : SdsSt w n (j + 1) v' (vs ++ [u]) w' := by
  obtain ⟨⟨h1, h2⟩, h3, h4⟩ := h
  have hb : Below W0.heap.size W0 (wr.alloc o) := h3.alloc h3.size o
  have hlt := h2.lt.1
  have hz := h1.size
  refine ⟨(h1.trans (hb.mono hz)).grown hg (by simp; have := h3.size; omega) fun k hk => (hlt k hk).1, ?_⟩
  show LAt w.heap.size w' v' (vs ++ [u]) (sideL n j ++ [bitS (j + 1) (n - 1)])
  exact h2.push hb (owns_mono (h4.alloc o) hz) (fun k e => (h4.lt k e).1) hown hg hat
set_option maxRecDepth 100000 in
set_option maxHeartbeats 4000000 in
theorem refSides_any (n : Nat) (h2 : 2 ≤ n) (h20 : n ≤ 20) (w : World) : Calls Tryz.prog 28 #[.int .i64 (n : Int)] w fun e w' => RowsO (allS n) w e w' := by
  obtain ⟨ti, hi1, hi2, hi3, hi4⟩ := info_int
  obtain ⟨tr, hr1, hr2, hr3, hr4⟩ := info_parts info_rows
  obtain ⟨P, hP⟩ : ∃ P : Nat, 2 ^ (n - 1) = P := ⟨_, rfl⟩
  have hp1 : 1 ≤ P := by rw [← hP]; exact Nat.one_le_two_pow
  have hp2 : P ≤ 524288 := by rw [← hP]; exact Nat.pow_le_pow_right (n := 2) (by omega) (show n - 1 ≤ 19 by omega)
  have hw : wrap64 ((2 : Int) ^ (n - 1)) = (P : Int) := by
    rw [show ((2 : Int) ^ (n - 1)) = ((2 ^ (n - 1) : Nat) : Int) by simp, hP]
    unfold wrap64
    omega
  have HA : Hid (allS n = sideL n (P - 1)) := Lib.hid (by unfold allS; rw [hP])
  clear hP
  go_enter Tryz.func28, Tryz.ntmps28
  go_wp2
  go_loopw [3, 4] (fun s i wr => ∃ (j : Nat) (v : Value) (vs : List Value), v = s ∧ i = .int .i64 ((j : Int) + 1) ∧ j + 1 ≤ P ∧ Hid (SdsSt w n j v vs wr)) (fun _ i _ => P - (intOf i).toNat)
  case atStart => exact ⟨0, _, [], rfl, rfl, hp1, Lib.hid ⟨Below.refl _ _, LAt.nil _ _⟩⟩
  case round =>
    obtain ⟨j, v, vs, rfl, rfl, hj, HS⟩ := hrel
    by_cases hlt : j + 1 < P
    · have i1 : (j : Int) + 1 < (P : Int) := by omega
      obtain ⟨W0, hW0⟩ : ∃ W0, W0 = wr := ⟨_, rfl⟩
      subst hW0
      have HI0 : Hid (SdIn w W0 n j 0 v vs (.slice none 0 0) W0) := Lib.hid ⟨HS.out, GrowRel.start _ _ _⟩
      have HT := Lib.hid (fun k => bit_test (j + 1) k (by omega))
      go_wp2
      go_loopw [5, 6] (fun s i wr => ∃ (k : Nat) (u : Value), u = s ∧ i = .int .i64 ((k : Int) + 1) ∧ k ≤ n - 1 ∧ Hid (SdIn w W0 n j k v vs u wr)) (fun _ i _ => n - (intOf i).toNat)
      case atStart => exact ⟨0, _, rfl, rfl, Nat.zero_le _, HI0⟩
      case round =>
        clear HI0 HS hw
        obtain ⟨k, u, rfl, rfl, hk, HI⟩ := hrel
        have hsz := HI.out.2.1.size
        have hsw := HI.out.1.1.size
        by_cases hkn : k + 1 < n
        · have i2 : (k : Int) + 1 < (n : Int) := by omega
          have ht : (bits .and .i64 (((j : Int) + 1) / 2 ^ k) 1 == 1) = (j + 1).testBit k := by
            have := HT.out k
            rwa [show ((j + 1 : Nat) : Int) = (j : Int) + 1 by omega] at this
          have hlb := bit_len (j + 1) k
          have HK := Lib.hid (fun hb => HI.out.skip hb)
          have HG := Lib.hid HI.out.2.2
          have HST := Lib.hid (fun (hb : (j + 1).testBit k = true) (w' : World) (u' : Value) (o : Obj) hown hg => HI.out.step (w' := w') (u' := u') (o := o) hb hown hg)
          generalize (j + 1).testBit k = b at *
          cases b with
          | true =>
            have HST2 := Lib.hid (HST.out rfl)
            clear HST HK
            generalize bitS (j + 1) k = xs at *
            go_wp2_with (first
              | (at_builtin; refine wpList_append_own _ rfl _ _ 28 rfl W0.heap.size 3 ti (.int .i64 0) 1 8 Tryz.underlying28 hi1 hi2 hi3 hi4 rfl (by decide) u xs.length (xs.map encZ) rfl (HG.out.alloc _) ⟨wr.heap.size, 0, none⟩ 1 1 [.int .i64 ((k : Int) + 1)] rfl rfl one_news (by intro u hu; simp at hu; subst hu; rfl) (by unfold maxLen; omega) (by omega) (by simp; omega) ?_; intro v' w6 hown6 hg6 _; have HS6 := Lib.hid (HST2.out w6 v' _ hown6 hg6); clear hown6 hg6))
            go_roundw
            case rel => exact ⟨k + 1, v', rfl, by go_num, by omega, HS6⟩
            case measure => simp [intOf]; omega
          | false =>
            have HK2 := Lib.hid (HK.out rfl)
            clear HST HK HG
            go_wp2
            go_roundw
            case rel => exact ⟨k + 1, u, rfl, by go_num, by omega, HK2⟩
            case measure => simp [intOf]; omega
        · have i2 : ¬ (k : Int) + 1 < (n : Int) := by omega
          have hke : k = n - 1 := by omega
          subst hke
          have hjl : (sideL n j).length ≤ 524288 := by rw [sideL_len]; omega
          obtain ⟨q5, c5, rfl⟩ := owns_form HI.out.2.2
          have HG : Hid (wr.ownsRow w.heap.size 28 1 v (sideL n j).length vs) := Lib.hid (HI.out.1.2.keep HI.out.2.1).2.1
          have HST := Lib.hid (fun (w' : World) (v' : Value) (o : Obj) hown hg hat => HI.out.push (w' := w') (v' := v') (o := o) hown hg hat)
          generalize sideL n j = L at *
          clear HT
          go_wp2_with (first
            | (at_builtin; refine wpList_append_own_at _ rfl _ _ 43 rfl w.heap.size 28 tr (.slice none 0 0) 1 24 Tryz.underlying43 hr1 hr2 hr3 hr4 rfl (by decide) v L.length vs rfl (HG.out.alloc _) ⟨wr.heap.size, 0, none⟩ 1 1 [.slice q5 (bitS (j + 1) (n - 1)).length c5] rfl rfl one_news (by intro u' hu; simp at hu; subst hu; rfl) (by unfold maxLen; omega) (by omega) (by simp; omega) ?_; intro v' w6 hown6 hg6 _ hat6; have HS6 := Lib.hid (HST.out w6 v' _ hown6 hg6 hat6); clear hown6 hg6 hat6))
          go_roundw
          case rel => exact ⟨j + 1, v', _, rfl, by go_num, by omega, HS6⟩
          case measure => simp [intOf]; omega
    · have i1 : ¬ (j : Int) + 1 < (P : Int) := by omega
      have hje : j = P - 1 := by omega
      subst hje
      obtain ⟨q, c, rfl, hq⟩ := HS.out.2.rows
      have HR := Lib.hid hq
      have HB := Lib.hid HS.out.1
      clear hq HS
      go_wp2
      go_ret
      rw [HA.out]
      exact ⟨HB.out, q, c, rfl, HR.out⟩
end Go.Proofs.YtceejjgmepaonaaGreatDoor.Br
/- Contracts of brute's small functions, at every argument that there is: who is a vertex, the groups' words, the library's counts of bits. -/
namespace Go.Proofs.YtceejjgmepaonaaGreatDoor.Bg
open Go.RowKit Go.ChangeShapes BgPure BrPure Br
/-- The library's table. -/
abbrev Tab (w : World) : Prop := TabAt 0 Lib.deBruijn32tab w
theorem tab_lt {w : World} (h : Tab w) : 0 < w.heap.size := World.block_lt_of_cell? w _ (h 0 (by decide))
theorem tab_on {N : Nat} {w w' : World} (h : Tab w) (hb : Below N w w') (hg : w.heap.size ≤ N) : Tab w' :=
  fun j hj => (hb.cell (Nat.lt_of_lt_of_le (tab_lt h) hg)).trans (h j hj)
theorem tab_keep {w w' : World} (h : Tab w) (hb : Below w.heap.size w w') : Tab w' := tab_on h hb (Nat.le_refl _)
theorem tz_any (x : Nat) (hx : x < 4294967296) (w : World) (hT : Tab w) :
    Calls Tryz.prog 52 #[.int .u32 x] w fun e w' => e = .returned (.int .i64 (lowG x : Int)) ∧ w = w' :=
  (Tryz.bits_Tz32 x hx w (fun _ => hT)).mono fun _ _ ⟨h1, h2⟩ => ⟨h1, h2.symm⟩
theorem isV_any (n v : Int) (w : World) :
    Calls Tryz.prog 33 #[.int .i64 n, .int .i64 v] w fun e w' => e = .returned (.bool (decide (0 ≤ v) && decide (v < n))) ∧ w = w' := by
  by_cases h : 0 ≤ v
  · have h1 : decide (0 ≤ v) = true := decide_eq_true h
    go_enter Tryz.func33, Tryz.ntmps33
    go_wp2
    go_ret
    exact ⟨bool_ret (by rw [h1, Bool.true_and]), rfl⟩
  · have h1 : decide (0 ≤ v) = false := decide_eq_false h
    go_enter Tryz.func33, Tryz.ntmps33
    go_wp2
    go_ret
    exact ⟨bool_ret (by first | rfl | rw [h1, Bool.false_and]), rfl⟩
theorem wrongSize_any (n : Int) (w : World) :
    Calls Tryz.prog 19 #[.int .i64 n] w fun e w' => e = .returned (.int .i64 (smallE n)) ∧ w = w' := by
  have H : Hid (smallE n = if n < 2 then 9 else if 20 < n then 3 else 0) := Lib.hid rfl
  by_cases h1 : n < 2
  · rw [if_pos h1] at H
    go_enter Tryz.func19, Tryz.ntmps19
    go_wp2
    go_ret
    exact ⟨ret_i H.out.symm, rfl⟩
  · rw [if_neg h1] at H
    by_cases h2 : 20 < n
    · rw [if_pos h2] at H
      go_enter Tryz.func19, Tryz.ntmps19
      go_wp2
      go_ret
      exact ⟨ret_i H.out.symm, rfl⟩
    · rw [if_neg h2] at H
      go_enter Tryz.func19, Tryz.ntmps19
      go_wp2
      go_ret
      exact ⟨ret_i H.out.symm, rfl⟩
theorem anySide_any (g : Int) (w : World) :
    Calls Tryz.prog 22 #[.int .u32 g] w fun e w' => e = .returned (.bool true) ∧ w = w' := by
  go_enter Tryz.func22, Tryz.ntmps22
  go_wp2
  go_ret
  exact ⟨rfl, rfl⟩
theorem every_any (n : Nat) (hn : n ≤ 31) (w : World) :
    Calls Tryz.prog 36 #[.int .i64 (n : Int)] w fun e w' => e = .returned (.int .u32 ((2 ^ n - 1 : Nat) : Int)) ∧ w = w' := by
  have h31 : 2 ^ n ≤ 2 ^ 31 := Nat.pow_le_pow_right (by decide) hn
  have hp := Nat.two_pow_pos n
  have H := Lib.hid (And.intro h31 hp)
  clear h31 hp
  go_enter Tryz.func36, Tryz.ntmps36
  go_wp2
  go_ret
  exact ⟨ret_i (by
    obtain ⟨h1, h2⟩ := H.out
    have e : (2 : Int) ^ n = ((2 ^ n : Nat) : Int) := by rw [Int.natCast_pow]; rfl
    rw [e]
    generalize 2 ^ n = q at *
    omega), rfl⟩
theorem has_any (g v : Nat) (hg : g < 4294967296) (hv : v < 32) (w : World) :
    Calls Tryz.prog 35 #[.int .u32 (g : Int), .int .i64 (v : Int)] w fun e w' => e = .returned (.bool (g.testBit v)) ∧ w = w' := by
  have H : Hid ((bits .and .u32 ((g : Int) / 2 ^ v) 1 == 1) = g.testBit v) := Lib.hid (by
    have e : (g : Int) / 2 ^ v = ((g / 2 ^ v : Nat) : Int) := by rw [Int.natCast_ediv, Int.natCast_pow]; rfl
    have hl : g / 2 ^ v < 4294967296 := Nat.lt_of_le_of_lt (Nat.div_le_self _ _) hg
    have h2 := u32_and_nat (g / 2 ^ v) 1 hl (by decide)
    rw [e, show (1 : Int) = ((1 : Nat) : Int) from rfl, h2, Nat.and_one_is_mod, Nat.testBit_eq_decide_div_mod_eq]
    generalize g / 2 ^ v % 2 = q
    by_cases hq : q = 1
    · subst hq; rfl
    · rw [decide_eq_false hq, beq_eq_false_iff_ne]
      omega)
  go_enter Tryz.func35, Tryz.ntmps35
  go_wp2
  go_ret
  exact ⟨bool_ret (by first | exact H.out | (have := H.out; simpa using this)), rfl⟩
theorem other_any (g n : Nat) (hn : n ≤ 31) (hg : g < 2 ^ n) (w : World) :
    Calls Tryz.prog 37 #[.int .u32 (g : Int), .int .i64 (n : Int)] w fun e w' => e = .returned (.int .u32 (othG n g : Int)) ∧ w = w' := by
  have h31 : 2 ^ n ≤ 2 ^ 31 := Nat.pow_le_pow_right (by decide) hn
  have H : Hid (bits .andNot .u32 ((2 ^ n - 1 : Nat) : Int) (g : Int) = (othG n g : Int)) := Lib.hid (by
    rw [u32_andNot_nat _ _ (by omega) (by omega), and_oth hn hg])
  have HE := Lib.hid (every_any n hn)
  clear h31 hg
  generalize (2 ^ n - 1 : Nat) = q at *
  go_enter Tryz.func37, Tryz.ntmps37
  go_wp2_with (first | (go_at_call 36; refine (HE.out _).mono ?_; rintro e w' ⟨rfl, rfl⟩))
  go_ret
  exact ⟨ret_i H.out, rfl⟩
theorem idx_any (T : ByteArray) (hT : T.size = 256) (i : Int) (h0 : 0 ≤ i) (h1 : i ≤ 255) : ∃ x : Int, (0 ≤ x ∧ x ≤ 255) ∧ ∀ w, (Instr.index 9 (.string T) (.int .u32 i)).run Tryz.prog w = .ok (.int .u8 x) w := by
  have h : 0 ≤ i ∧ i < T.size := by omega
  refine ⟨((T[i.toNat]'(by omega)).toNat : Int), ⟨Int.natCast_nonneg _, ?_⟩, fun w => ?_⟩
  rotate_left 1
  · rw [run_index_string w _ _ _ _ Tryz.underlying9, dif_pos h]
  · have := (T[i.toNat]'(by omega)).toNat_lt
    omega
set_option maxRecDepth 100000 in
set_option maxHeartbeats 2000000 in
/-- How many bits there are: some number, no great one. -/
theorem ones_any (g : Nat) (hg : g < 4294967296) (w : World) :
    Calls Tryz.prog 45 #[.int .u32 (g : Int)] w fun e w' => ∃ c q : Nat, c ≤ 255 ∧ e = .returned (.int .i64 (c : Int)) ∧ w' = w.drewN q := by
  obtain ⟨y1, hy1, e1⟩ : ∃ y : Int, (0 ≤ y ∧ y ≤ 255) ∧ (g : Int) / 16777216 = y := ⟨_, by omega, rfl⟩
  obtain ⟨y2, hy2, e2⟩ : ∃ y : Int, (0 ≤ y ∧ y ≤ 255) ∧ bits .and .u32 ((g : Int) / 65536) 255 = y := ⟨_, by
    have := bits_mask .u32 32 (by decide) (fun n h1 h2 => by rw [IntKind.wrap_u32]; omega) 8 (by decide) ((g : Int) / 65536) (by omega) (by omega)
    rw [show (2 : Int) ^ 8 - 1 = 255 by decide] at this
    rw [this]; omega, rfl⟩
  obtain ⟨y3, hy3, e3⟩ : ∃ y : Int, (0 ≤ y ∧ y ≤ 255) ∧ bits .and .u32 ((g : Int) / 256) 255 = y := ⟨_, by
    have := bits_mask .u32 32 (by decide) (fun n h1 h2 => by rw [IntKind.wrap_u32]; omega) 8 (by decide) ((g : Int) / 256) (by omega) (by omega)
    rw [show (2 : Int) ^ 8 - 1 = 255 by decide] at this
    rw [this]; omega, rfl⟩
  obtain ⟨y4, hy4, e4⟩ : ∃ y : Int, (0 ≤ y ∧ y ≤ 255) ∧ bits .and .u32 (g : Int) 255 = y := ⟨_, by
    have := bits_mask .u32 32 (by decide) (fun n h1 h2 => by rw [IntKind.wrap_u32]; omega) 8 (by decide) (g : Int) (by omega) (by omega)
    rw [show (2 : Int) ^ 8 - 1 = 255 by decide] at this
    rw [this]; omega, rfl⟩
  go_enter Tryz.func45, Tryz.ntmps45
  go_wp2_with fail
  generalize hT : ByteArray.mk _ = T
  have hsz : T.size = 256 := by rw [← hT]; rfl
  clear hT
  obtain ⟨x1, hx1, i1⟩ := idx_any T hsz y1 hy1.1 hy1.2
  obtain ⟨x2, hx2, i2⟩ := idx_any T hsz y2 hy2.1 hy2.2
  obtain ⟨x3, hx3, i3⟩ := idx_any T hsz y3 hy3.1 hy3.2
  obtain ⟨x4, hx4, i4⟩ := idx_any T hsz y4 hy4.1 hy4.2
  go_quiet (fail)
  go_wp2
  go_ret
  exact ⟨((x1 + x2 + x3 + x4) % 256).toNat, nq, by omega, ret_i (by omega), rfl⟩
end Go.Proofs.YtceejjgmepaonaaGreatDoor.Bg
