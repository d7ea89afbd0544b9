/- Texts that the laws of this seat stand on, part 10. -/
import Derived.Test.YtceejjgmepaonaaGreatDoorPk9
import Derived.Sort.AssemblyPlain
import Derived.Sort.Grow
import Derived.CellFam
import Derived.BigGuard
import Derived.BigCall
import Derived.Deep.Draws
import Derived.Deep.QuietTactic
import Derived.BigQuiet
import Derived.Shelf.Small.Bits
import Derived.Shelf.SlGeneric
import Derived.Ground.SlgnProg
import Derived.Ground.SlsfProg
import Derived.Shelf.SlSortCmp.Xorshift
import Derived.Test.YtceejjgmepaonaaGreatDoorProg
import Derived.BigRegion
import Derived.Deep.CutRange
import Derived.Deep.DeepFit
/- Groups as words in memory, and which of two comes ahead (for the library's sort of them). -/
namespace Go.Proofs.YtceejjgmepaonaaGreatDoor.Gk
open Go.RowKit Go.ChangeShapes
def encU (n : Nat) : Value := .int .u32 (n : Int)
def ltB (x y : Nat) : Bool := decide (x < y)
theorem isNaN_any (x : Int) (w : World) :
    Calls Tryz.prog 94 #[.int .u32 x] w fun e w' => e = .returned (.bool false) ∧ w = w' := by
  go_enter Tryz.func94, Tryz.ntmps94
  go_wp2
  go_ret
  exact ⟨rfl, rfl⟩
theorem less_any (x y : Int) (w : World) :
    Calls Tryz.prog 72 #[.int .u32 x, .int .u32 y] w fun e w' => e = .returned (.bool (decide (x < y))) ∧ w = w' := by
  go_enter Tryz.func72, Tryz.ntmps72
  go_wp2_with (first | (go_at_call 94; refine (isNaN_any _ _).mono ?_; rintro e w' ⟨rfl, rfl⟩))
  go_ret
  exact ⟨rfl, rfl⟩
end Go.Proofs.YtceejjgmepaonaaGreatDoor.Gk
/- A row of words of 64 bits in memory, behind calls that turn it, draw, and make memory of their own. -/
namespace Go.Proofs.YtceejjgmepaonaaGreatDoor.Gk
open Go.RowKit
open Go.Sort hiding Below
/-- w0 with d in the row, further draws and new blocks: nothing else. -/
def RowAt (w0 : World) (blk off : Nat) (d : Array Nat) (w : World) : Prop := ∃ n os, w = grow (putRow encU (Sort.ahead w0 n) blk off d) os
theorem RowAt.start {w : World} {blk off : Nat} {d : Array Nat} (h : Holds encU w blk off d) : RowAt w blk off d w :=
  ⟨0, #[], by rw [ahead_zero, putRow_self _ _ _ _ _ h, grow_empty]⟩
theorem RowAt.cell {w0 w : World} {blk off : Nat} {d0 d : Array Nat} (h : RowAt w0 blk off d w) (hH : Holds encU w0 blk off d0) (hb : blk < w0.heap.size) (hs : d.size = d0.size) {x : Nat} (hx : x < d0.size) :
    w.cell? ⟨blk, off + x, none⟩ = some (.int .u32 (d[x]! : Int)) := by
  obtain ⟨n, os, rfl⟩ := h
  rw [cell?_grow _ _ _ (by simpa using hb)]
  exact cell?_putRow encU _ _ _ d0 d (holds_ahead _ _ _ _ _ _ hH) hs x (by omega)
theorem RowAt.frozen {w0 w : World} {blk off : Nat} {d0 d : Array Nat} (h : RowAt w0 blk off d w) (hH : Holds encU w0 blk off d0) (hb : blk < w0.heap.size) {x : Nat} (hx : x < d0.size) :
    w.frozen? ⟨blk, off + x, none⟩ = false := by
  obtain ⟨n, os, rfl⟩ := h
  rw [frozen?_grow _ _ _ (by simpa using hb), frozen?_putRow]
  exact (holds_ahead _ _ n _ _ _ hH x hx).2
theorem RowAt.holds {w0 w : World} {blk off : Nat} {d0 d : Array Nat} (h : RowAt w0 blk off d w) (hH : Holds encU w0 blk off d0) (hb : blk < w0.heap.size) (hs : d.size = d0.size) : Holds encU w blk off d :=
  fun j hj => ⟨h.cell hH hb hs (by omega), h.frozen hH hb (by omega)⟩
theorem RowAt.size {w0 w : World} {blk off : Nat} {d : Array Nat} (h : RowAt w0 blk off d w) : w0.heap.size ≤ w.heap.size := by
  obtain ⟨n, os, rfl⟩ := h
  simp
theorem RowAt.drewN {w0 w : World} {blk off : Nat} {d : Array Nat} (h : RowAt w0 blk off d w) (q : Nat) : RowAt w0 blk off d (w.drewN q) := by
  obtain ⟨n, os, rfl⟩ := h
  refine ⟨n + q, os, ?_⟩
  show Sort.ahead (grow (putRow encU (Sort.ahead w0 n) blk off d) os) q = _
  rw [ahead_grow, putRow_ahead encU w0 n, ahead_ahead, ← putRow_ahead]
theorem RowAt.trans {w0 w w' : World} {blk off : Nat} {d d' : Array Nat} (h : RowAt w0 blk off d w) (h' : RowAt w blk off d' w') (hb : blk < w0.heap.size) (hs : d'.size = d.size) : RowAt w0 blk off d' w' := by
  obtain ⟨n, os, rfl⟩ := h
  obtain ⟨m, os', rfl⟩ := h'
  exact ⟨n + m, os ++ os', grow_step_grow encU w0 os os' n m blk off d d' hb hs⟩
theorem RowAt.alloc {w0 w : World} {blk off : Nat} {d : Array Nat} (h : RowAt w0 blk off d w) (o : Obj) : RowAt w0 blk off d (w.alloc o) := by
  obtain ⟨n, os, rfl⟩ := h
  exact ⟨n, os ++ #[o], by rw [alloc_eq_grow, grow_grow]⟩
theorem RowAt.set {w0 w : World} {blk off : Nat} {d : Array Nat} (h : RowAt w0 blk off d w) (hb : blk < w0.heap.size) {j : Nat} (hj : j < d.size) (x : Nat) :
    RowAt w0 blk off (d.setIfInBounds j x) (w.setCell ⟨blk, off + j, none⟩ (.int .u32 (x : Int))) := by
  obtain ⟨n, os, rfl⟩ := h
  refine ⟨n, os, ?_⟩
  rw [setCell_eq, mapBlock_grow _ _ _ _ (by simpa using hb), ← setCell_eq]
  exact congrArg (fun z => grow z os) (putRow_set encU (Sort.ahead w0 n) blk off d j x hj)
theorem RowAt.swap {w0 w : World} {blk off : Nat} {d : Array Nat} (h : RowAt w0 blk off d w) (hb : blk < w0.heap.size) {j k : Nat} (hj : j < d.size) (hk : k < d.size) (q : Nat) :
    RowAt w0 blk off (swp d j k) (((w.drewN q).setCell ⟨blk, off + j, none⟩ (.int .u32 (d[k]! : Int))).setCell ⟨blk, off + k, none⟩ (.int .u32 (d[j]! : Int))) :=
  ((h.drewN q).set hb hj _).set hb (by simpa using hk) _
theorem RowAt.below {w0 w : World} {blk off : Nat} {d : Array Nat} (h : RowAt w0 blk off d w) (hb : blk < w0.heap.size) : Below blk w0 w := by
  obtain ⟨n, os, rfl⟩ := h
  refine ⟨rfl, rfl, rfl, by simp, fun k hk => ?_⟩
  rw [heap_grow_old _ _ (by simp; omega)]
  simp only [putRow, mapBlock, Array.getElem?_modify, heap_ahead]
  rw [if_neg (by omega)]
/-- What a call leaves that turns the row's places from a to b among themselves. -/
def Turned (w0 : World) (blk off a b : Nat) (d : Array Nat) (Q : Array Nat → Prop) (w : World) : Prop := ∃ d', RowAt w0 blk off d' w ∧ PermIn a b d d' ∧ Q d'
theorem swo_lt : SWO ltB where
  irrefl x := by unfold ltB; simp
  trans x y z := by unfold ltB; simp; omega
  ntrans x y z := by unfold ltB; simp; omega
theorem lt_total (x y : Nat) (h1 : ltB x y = false) (h2 : ltB y x = false) : x = y := by unfold ltB at h1 h2; simp at h1 h2; omega
/-- A row's contents under a name of their own. -/
theorem named (d : Array Nat) : ∃ G : Nat → Nat, ∀ t, G t = d[t]! := ⟨fun t => d[t]!, fun _ => rfl⟩
theorem key_less (x y : Nat) (w : World) : Calls Tryz.prog 72 #[.int .u32 x, .int .u32 y] w fun e w' => e = .returned (.bool (ltB x y)) ∧ w' = w :=
  (less_any x y w).mono fun _ _ ⟨h1, h2⟩ => ⟨by rw [h1]; unfold ltB; simp, h2.symm⟩
end Go.Proofs.YtceejjgmepaonaaGreatDoor.Gk
/- The library's insertion sort at the keys of floats: sorted, and nothing but turned. -/
namespace Go.Proofs.YtceejjgmepaonaaGreatDoor.Gk
open Go.RowKit
open Go.Sort hiding Below
/-- At the head of the outer loop. -/
def OutRel (w0 : World) (blk off a b : Nat) (d : Array Nat) (i : Nat) (w : World) : Prop := ∃ dk, RowAt w0 blk off dk w ∧ PermIn a b d dk ∧ SortedIn ltB a i dk
/-- At the head of the inner loop. -/
def InsRel (w0 : World) (blk off a b : Nat) (d : Array Nat) (i j : Nat) (dk : Array Nat) (w : World) : Prop := RowAt w0 blk off dk w ∧ PermIn a b d dk ∧ Ins ltB a j i dk
theorem ins_start {a i : Nat} {d : Array Nat} (h : SortedIn ltB a i d) : Ins ltB a i i d :=
  ⟨fun p q hp hpq hq hpi hqi => h p q hp hpq (by omega), fun q h1 h2 => by omega⟩
set_option maxHeartbeats 1000000 in
set_option maxRecDepth 100000 in
theorem ins_any (blk off cap a b : Nat) (d : Array Nat) (w : World) (hH : Holds encU w blk off d) (hbk : blk < w.heap.size) (hab : a ≤ b) (hb : b ≤ d.size) (hsz : d.size < 4611686018427387904) :
    Calls Tryz.prog 66 #[.slice (some ⟨blk, off, none⟩) d.size cap, .int .i64 a, .int .i64 b] w fun e w' =>
      e = .returned (.tuple #[]) ∧ Turned w blk off a b d (SortedIn ltB a b) w' := by
  have HH := Lib.hid hH
  have HS : Hid (OutRel w blk off a b d (a + 1) w) := ⟨d, RowAt.start hH, permIn_refl _ _ _, fun i j _ _ _ => by omega⟩
  clear hH
  go_enter Tryz.func66, Tryz.ntmps66
  go_wp2
  go_loopw [6] (fun vi wr => ∃ i : Nat, vi = .int .i64 i ∧ a < i ∧ i ≤ b + 1 ∧ Hid (OutRel w blk off a b d i wr)) (fun vi _ => b + 1 - (intOf vi).toNat)
  case atStart => exact ⟨a + 1, by go_num, by omega, by omega, HS⟩
  case round =>
    obtain ⟨i, rfl, hai, hib, HO⟩ := hrel
    by_cases hlt : i < b
    · go_wp2
      go_loopw [7] (fun vj wr2 => ∃ (j : Nat) (dj : Array Nat), vj = .int .i64 j ∧ a ≤ j ∧ j ≤ i ∧ Hid (InsRel w blk off a b d i j dj wr2)) (fun vj _ => (intOf vj).toNat)
      case atStart =>
        obtain ⟨dk, h1, h2, h3⟩ := HO.out
        exact ⟨i, dk, rfl, by omega, Nat.le_refl _, ⟨h1, h2, ins_start h3⟩⟩
      case round =>
        obtain ⟨j, dj, rfl, haj, hji, HI⟩ := hrel
        obtain ⟨G, hG⟩ := named dj
        have hsj : dj.size = d.size := HI.out.2.1.1
        have hcw : ∀ t, t < d.size → wr.cell? ⟨blk, off + t, none⟩ = some (.int .u32 (G t : Int)) := fun t ht => by
          rw [hG]; exact HI.out.1.cell HH.out hbk hsj ht
        have hfw : ∀ t, t < d.size → wr.frozen? ⟨blk, off + t, none⟩ = false := fun t ht => HI.out.1.frozen HH.out hbk ht
        have HG := Lib.hid hG
        have HZ := Lib.hid hsj
        clear hG hsj
        have OUT : Hid ((j ≤ a ∨ ltB (G j) (G (j - 1)) = false) → ∀ q, OutRel w blk off a b d (i + 1) (wr.drewN q)) := by
          show (j ≤ a ∨ ltB (G j) (G (j - 1)) = false) → ∀ q, OutRel w blk off a b d (i + 1) (wr.drewN q)
          intro hs q
          rw [HG.out, HG.out] at hs
          exact ⟨dj, HI.out.1.drewN q, HI.out.2.1, HI.out.2.2.stop swo_lt hs⟩
        by_cases hja : a < j
        · go_wp2
          go_quiet (first | (go_at_call 72; refine Calls.quiet_of_same (key_less _ _ _)))
          go_wp2
          · have hl : ltB (G j) (G (j - 1)) = true := by assumption
            go_region
            all_goals go_wp2
            go_roundw
            case rel =>
              refine ⟨j - 1, swp dj j (j - 1), by congr 1; omega, by omega, by omega, ?_, ?_, ?_⟩
              · rw [HG.out, HG.out]
                exact HI.out.1.swap hbk (by rw [HZ.out]; omega) (by rw [HZ.out]; omega) _
              · exact permIn_trans _ _ _ _ _ HI.out.2.1 (swp_permIn _ _ _ _ _ (by omega) (by omega) (by omega) (by omega) (by rw [HZ.out]; exact hb))
              · have := HI.out.2.2
                rw [HG.out, HG.out] at hl
                obtain ⟨k, rfl⟩ : ∃ k, j = k + 1 := ⟨j - 1, by omega⟩
                exact this.step hl (by omega) (by rw [HZ.out]; omega)
            case measure => simp [intOf]; omega
          · have hl : ltB (G j) (G (j - 1)) = false := by assumption
            go_roundw
            case rel => exact ⟨i + 1, by go_num, by omega, by omega, OUT.out (Or.inr hl) nq⟩
            case measure => simp [intOf]; omega
        · go_wp2
          go_quiet (first | (go_at_call 72; refine Calls.quiet_of_same (key_less _ _ _)))
          go_wp2
          go_roundw
          case rel => exact ⟨i + 1, by go_num, by omega, by omega, OUT.out (Or.inl (by omega)) nq⟩
          case measure => simp [intOf]; omega
    · go_wp2
      go_end0
      obtain ⟨dk, h1, h2, h3⟩ := HO.out
      exact ⟨rfl, dk, h1, h2, fun p q hp hpq hq => h3 p q hp hpq (by omega)⟩
end Go.Proofs.YtceejjgmepaonaaGreatDoor.Gk
/- The library's contracts that the sort of keys leans on, laid at this program: bits.Len, slices.Compact at keys, the generator's Next, nextPowerOfTwo. -/
namespace Go.Proofs
open Go.Shelf
def Tryz.lays125_ren : Go.Shelf.Ren := ⟨fun | 125 => 55 | 128 => 75 | 129 => 76 | n => n, fun | 46 => 103 | 3 => 3 | 51 => 70 | 53 => 135 | 4 => 4 | 5 => 5 | 9 => 9 | n => n, fun | n => n⟩
theorem Tryz.lays125 : Go.Proofs.Lays.n125 Tryz.prog Tryz.lays125_ren := {
  mixed := by kernel_rfl
  f125 := Tryz.func55.trans (congrArg some (by kernel_rfl))
  f128 := Tryz.func75.trans (congrArg some (by kernel_rfl))
  f129 := Tryz.func76.trans (congrArg some (by kernel_rfl))
  t3 := Tryz.underlying3
  a3 := Tryz.isAgg3
  z3 := Tryz.sizeOf3
  v3 := Tryz.zeroValue3
  t4 := Tryz.underlying4
  a4 := Tryz.isAgg4
  z4 := Tryz.sizeOf4
  v4 := Tryz.zeroValue4
  t5 := Tryz.underlying5
  a5 := Tryz.isAgg5
  z5 := Tryz.sizeOf5
  v5 := Tryz.zeroValue5
  t9 := Tryz.underlying9
  a9 := Tryz.isAgg9
  z9 := Tryz.sizeOf9
  v9 := Tryz.zeroValue9
  t46 := Tryz.underlying103
  a46 := Tryz.isAgg103
  z46 := Tryz.sizeOf103
  v46 := Tryz.zeroValue103
  t51 := Tryz.underlying70
  a51 := Tryz.isAgg70
  z51 := Tryz.sizeOf70
  v51 := Tryz.zeroValue70
  t53 := Tryz.underlying135
  a53 := Tryz.isAgg135
  z53 := Tryz.sizeOf135
  v53 := Tryz.zeroValue135 }
theorem Tryz.bits_Len (x : Int) (w : World) (h0 : 0 ≤ x) (h1 : x ≤ 18446744073709551615) :
    Calls Tryz.prog 55 #[.int .u64 x] w fun e w' => e = .returned (.int .i64 (Lib.bitLen x.toNat)) ∧ w' = w := Any.bits_Len Tryz.lays125 x w h0 h1
def Tryz.lays48_ren : Go.Shelf.Ren := ⟨fun | 48 => 91 | n => n, fun | 76 => 154 | 55 => 135 | 0 => 0 | 66 => 143 | 39 => 103 | n => n, fun | n => n⟩
theorem Tryz.lays48 : Go.Proofs.SlLaysF0.n48 Tryz.prog Tryz.lays48_ren := {
  mixed := by kernel_rfl
  f48 := Tryz.func91.trans (congrArg some (by kernel_rfl))
  t0 := Tryz.underlying0
  a0 := Tryz.isAgg0
  z0 := Tryz.sizeOf0
  v0 := Tryz.zeroValue0
  t39 := Tryz.underlying103
  a39 := Tryz.isAgg103
  z39 := Tryz.sizeOf103
  v39 := Tryz.zeroValue103
  t55 := Tryz.underlying135
  a55 := Tryz.isAgg135
  z55 := Tryz.sizeOf135
  v55 := Tryz.zeroValue135
  t66 := Tryz.underlying143
  a66 := Tryz.isAgg143
  z66 := Tryz.sizeOf143
  v66 := Tryz.zeroValue143
  t76 := Tryz.underlying154
  a76 := Tryz.isAgg154
  z76 := Tryz.sizeOf154
  v76 := Tryz.zeroValue154 }
def Tryz.lays47_ren : Go.Shelf.Ren := ⟨fun | 47 => 90 | 15 => 55 | 28 => 75 | 29 => 76 | n => n, fun | 3 => 3 | 39 => 103 | 53 => 70 | 55 => 135 | 4 => 4 | 5 => 5 | 9 => 9 | n => n, fun | n => n⟩
theorem Tryz.lays47 : Go.Proofs.SlLaysF0.n47 Tryz.prog Tryz.lays47_ren := {
  mixed := by kernel_rfl
  f15 := Tryz.func55.trans (congrArg some (by kernel_rfl))
  f28 := Tryz.func75.trans (congrArg some (by kernel_rfl))
  f29 := Tryz.func76.trans (congrArg some (by kernel_rfl))
  f47 := Tryz.func90.trans (congrArg some (by kernel_rfl))
  t3 := Tryz.underlying3
  a3 := Tryz.isAgg3
  z3 := Tryz.sizeOf3
  v3 := Tryz.zeroValue3
  t4 := Tryz.underlying4
  a4 := Tryz.isAgg4
  z4 := Tryz.sizeOf4
  v4 := Tryz.zeroValue4
  t5 := Tryz.underlying5
  a5 := Tryz.isAgg5
  z5 := Tryz.sizeOf5
  v5 := Tryz.zeroValue5
  t9 := Tryz.underlying9
  a9 := Tryz.isAgg9
  z9 := Tryz.sizeOf9
  v9 := Tryz.zeroValue9
  t39 := Tryz.underlying103
  a39 := Tryz.isAgg103
  z39 := Tryz.sizeOf103
  v39 := Tryz.zeroValue103
  t53 := Tryz.underlying70
  a53 := Tryz.isAgg70
  z53 := Tryz.sizeOf70
  v53 := Tryz.zeroValue70
  t55 := Tryz.underlying135
  a55 := Tryz.isAgg135
  z55 := Tryz.sizeOf135
  v55 := Tryz.zeroValue135 }
end Go.Proofs
/- The library's sort of keys: what a sort of so many must answer; where there are twelve or fewer. -/
namespace Go.Proofs.YtceejjgmepaonaaGreatDoor.Gk
open Go.RowKit
open Go.Sort hiding Below
/-- pdqsortOrdered sorts where there are no more than m between its ends. -/
def PdqOk (m : Nat) : Prop := ∀ (blk off cap a b limit : Nat) (d : Array Nat) (w : World), b - a ≤ m → Holds encU w blk off d → blk < w.heap.size → a ≤ b → b ≤ d.size → d.size < 4611686018427387904 → limit < 4611686018427387904 → Sort.Below ltB a b d →
    Calls Tryz.prog 54 #[.slice (some ⟨blk, off, none⟩) d.size cap, .int .i64 a, .int .i64 b, .int .i64 limit] w fun e w' =>
      e = .returned (.tuple #[]) ∧ Turned w blk off a b d (SortedIn ltB a b) w'
set_option maxHeartbeats 400000 in
theorem pdq_small (blk off cap a b limit : Nat) (d : Array Nat) (w : World) (h12 : b - a ≤ 12) (hH : Holds encU w blk off d) (hbk : blk < w.heap.size) (hab : a ≤ b) (hb : b ≤ d.size) (hsz : d.size < 4611686018427387904) :
    Calls Tryz.prog 54 #[.slice (some ⟨blk, off, none⟩) d.size cap, .int .i64 a, .int .i64 b, .int .i64 limit] w fun e w' =>
      e = .returned (.tuple #[]) ∧ Turned w blk off a b d (SortedIn ltB a b) w' := by
  have HI := Lib.hid (ins_any blk off cap a b d w hH hbk hab hb hsz)
  have hd : decide ((b : Int) - (a : Int) ≤ 12) = true := by simp; omega
  clear hH
  go_enter Tryz.func54, Tryz.ntmps54
  go_wp2
  go_loopw [1, 2] (fun va vb wr => va = .int .i64 a ∧ vb = .int .i64 b ∧ wr = w) (fun _ _ _ => 0)
  case atStart => exact ⟨rfl, rfl, rfl⟩
  case round =>
    obtain ⟨rfl, rfl, rfl⟩ := hrel
    go_wp2_with (first | (go_at_call 66; refine HI.out.mono ?_; rintro e w' ⟨rfl, ht⟩; have HT := Lib.hid ht; clear ht))
    exact bodyPost_ret (results_none rfl _ _ _) rfl ⟨rfl, HT.out⟩
theorem pdq_12 : PdqOk 12 := fun blk off cap a b limit d w h12 hH hbk hab hb hsz _ _ => pdq_small blk off cap a b limit d w h12 hH hbk hab hb hsz
/-- slices.Sort at so many keys. -/
def SortOk (m : Nat) : Prop := ∀ (blk off cap : Nat) (d : Array Nat) (w : World), d.size ≤ m → Holds encU w blk off d → blk < w.heap.size →
    Calls Tryz.prog 32 #[.slice (some ⟨blk, off, none⟩) d.size cap] w fun e w' =>
      e = .returned (.tuple #[]) ∧ Turned w blk off 0 d.size d (SortedIn ltB 0 d.size) w'
theorem len_any (n : Nat) (hn : n < 4611686018427387904) (w : World) : ∃ k : Nat, k < 4611686018427387904 ∧
    Calls Tryz.prog 55 #[.int .u64 n] w fun e w' => e = .returned (.int .i64 (k : Int)) ∧ w = w' := by
  have h := Tryz.bits_Len (n : Int) w (by omega) (by omega)
  rw [Int.toNat_natCast] at h
  exact ⟨Lib.bitLen n, by have := Lib.bitLen_le n 64 (by omega) (by omega); omega, h.mono fun _ _ ⟨h1, h2⟩ => ⟨h1, h2.symm⟩⟩
set_option maxHeartbeats 400000 in
theorem sort_of (m : Nat) (hm : m < 4611686018427387904) (h : PdqOk m) : SortOk m := by
  intro blk off cap d w hd hH hbk
  obtain ⟨k, hk, hlen⟩ := len_any d.size (by omega) w
  have hp := h blk off cap 0 d.size k d w (by omega) hH hbk (by omega) (by omega) (by omega) hk (Or.inl rfl)
  have HL := Lib.hid hlen
  have HP := Lib.hid hp
  clear hlen hp hH h
  go_enter Tryz.func32, Tryz.ntmps32
  go_wp2_with (first
    | (go_at_call 55; refine HL.out.mono ?_; rintro e w' ⟨rfl, rfl⟩)
    | (go_at_call 54; refine HP.out.mono ?_; rintro e w' ⟨rfl, ht⟩; have HT := Lib.hid ht; clear ht))
  go_end0
  exact ⟨rfl, HT.out⟩
theorem sort_12 : SortOk 12 := sort_of 12 (by decide) pdq_12
end Go.Proofs.YtceejjgmepaonaaGreatDoor.Gk
/- The library's sifting down at the keys of floats: what the plain function makes of the row. -/
namespace Go.Proofs.YtceejjgmepaonaaGreatDoor.Gk
open Go.RowKit
open Go.Sort hiding Below
theorem sd_end {hi F r : Nat} {d : Array Nat} (h : hi ≤ 2 * r + 1) : siftDown ltB hi F r d = d := by
  rw [siftDown, dif_pos h]
/-- The child that is looked at. -/
theorem sd_right {hi F r : Nat} {d : Array Nat} (h1 : 2 * r + 2 < hi) (h2 : ltB d[F + (2 * r + 1)]! d[F + (2 * r + 2)]! = true) :
    siftDown ltB hi F r d = if ltB d[F + r]! d[F + (2 * r + 2)]! = true then siftDown ltB hi F (2 * r + 2) (swp d (F + r) (F + (2 * r + 2))) else d := by
  rw [siftDown, dif_neg (by omega), show F + (2 * r + 1) + 1 = F + (2 * r + 2) by omega, show 2 * r + 1 + 1 = 2 * r + 2 by omega]
  have e : (decide (2 * r + 2 < hi) && ltB d[F + (2 * r + 1)]! d[F + (2 * r + 2)]!) = true := by simp [h1, h2]
  rw [if_pos e]
  cases hq : ltB d[F + r]! d[F + (2 * r + 2)]!
  · simp
  · simp [h1]
theorem sd_left {hi F r : Nat} {d : Array Nat} (h1 : 2 * r + 1 < hi) (h2 : ¬ 2 * r + 2 < hi ∨ ltB d[F + (2 * r + 1)]! d[F + (2 * r + 2)]! = false) :
    siftDown ltB hi F r d = if ltB d[F + r]! d[F + (2 * r + 1)]! = true then siftDown ltB hi F (2 * r + 1) (swp d (F + r) (F + (2 * r + 1))) else d := by
  rw [siftDown, dif_neg (by omega), show F + (2 * r + 1) + 1 = F + (2 * r + 2) by omega, show 2 * r + 1 + 1 = 2 * r + 2 by omega]
  have e : ¬ (decide (2 * r + 2 < hi) && ltB d[F + (2 * r + 1)]! d[F + (2 * r + 2)]!) = true := by
    rcases h2 with h2 | h2 <;> simp [h2]
  rw [if_neg e]
  cases hq : ltB d[F + r]! d[F + (2 * r + 1)]! <;> simp
/-- At the head of a round. -/
def SiftRel (w0 : World) (blk off hi F lo : Nat) (d : Array Nat) (r : Nat) (dk : Array Nat) (w : World) : Prop := RowAt w0 blk off dk w ∧ dk.size = d.size ∧ siftDown ltB hi F r dk = siftDown ltB hi F lo d
set_option maxHeartbeats 1000000 in
set_option maxRecDepth 100000 in
theorem sift_any (blk off cap lo hi F : Nat) (d : Array Nat) (w : World) (hH : Holds encU w blk off d) (hbk : blk < w.heap.size) (hb : F + hi ≤ d.size) (hlo : lo ≤ d.size) (hsz : d.size < 4611686018427387904) :
    Calls Tryz.prog 89 #[.slice (some ⟨blk, off, none⟩) d.size cap, .int .i64 lo, .int .i64 hi, .int .i64 F] w fun e w' =>
      e = .returned (.tuple #[]) ∧ RowAt w blk off (siftDown ltB hi F lo d) w' := by
  have HH := Lib.hid hH
  have HS : Hid (SiftRel w blk off hi F lo d lo d w) := ⟨RowAt.start hH, rfl, rfl⟩
  clear hH
  go_enter Tryz.func89, Tryz.ntmps89
  go_wp2
  go_loopw [8] (fun vi wr => ∃ (r : Nat) (dk : Array Nat), vi = .int .i64 r ∧ r ≤ d.size ∧ Hid (SiftRel w blk off hi F lo d r dk wr)) (fun vi _ => d.size - (intOf vi).toNat)
  case atStart => exact ⟨lo, d, rfl, hlo, HS⟩
  case round =>
    obtain ⟨r, dk, rfl, hr, HR⟩ := hrel
    by_cases h1 : 2 * r + 1 < hi
    · obtain ⟨G, hG⟩ := named dk
      have hsk : dk.size = d.size := HR.out.2.1
      have hcw : ∀ W, RowAt w blk off dk W → ∀ t, t < d.size → W.cell? ⟨blk, off + t, none⟩ = some (.int .u32 (G t : Int)) := fun W hW t ht => by
        rw [hG]; exact hW.cell HH.out hbk hsk ht
      have HC := Lib.hid hcw
      have HG := Lib.hid hG
      have HZ := Lib.hid hsk
      have hcw1 := HC.out wr HR.out.1
      clear hG hsk hcw
      have t1 : ¬ ((hi : Int) ≤ 2 * (r : Int) + 1) := by omega
      go_upto_region 3 with fail
      go_cut [36] from 11 to 75 (fun b wx => ∃ B, b = .bool B ∧ Hid (B = (decide (2 * r + 2 < hi) && ltB (G (F + (2 * r + 1))) (G (F + (2 * r + 2)))) ∧ RowAt w blk off dk wx))
      case first =>
        by_cases h2 : 2 * r + 2 < hi
        · have t2 : 2 * (r : Int) + 1 + 1 < (hi : Int) := by omega
          have e1 : F + 2 * r + 1 = F + (2 * r + 1) := by omega
          have e2 : F + 2 * r + 2 = F + (2 * r + 2) := by omega
          have hl := fun W => key_less (G (F + 2 * r + 1)) (G (F + 2 * r + 2)) W
          generalize hb1 : ltB (G (F + 2 * r + 1)) (G (F + 2 * r + 2)) = B at *
          have HL := Lib.hid hl
          rw [e1, e2] at hb1
          subst hb1
          clear hl e1 e2
          go_quiet (first | (go_at_call 72; refine Calls.quiet_of_same (HL.out _)))
          go_wp2_with fail
          go_meet
          case rel => exact ⟨_, rfl, by simp [h2], HR.out.1.drewN _⟩
        · have t2 : decide (2 * (r : Int) + 1 + 1 < (hi : Int)) = false := decide_eq_false (by omega)
          go_quiet (first | (go_at_call 72; refine Calls.quiet_of_same (key_less _ _ _)))
          go_wp2_with fail
          go_meet
          case rel => exact ⟨false, rfl, by simp [h2], HR.out.1.drewN _⟩
      case rest =>
        obtain ⟨B, rfl, HB⟩ := hcut
        clear hcw1
        go_upto_if 36 with fail
        go_cut [9] from 11 to 75 (fun c wx => ∃ x : Nat, c = .int .i64 x ∧ x < hi ∧ r < x ∧ Hid (siftDown ltB hi F r dk = (if ltB dk[F + r]! dk[F + x]! = true then siftDown ltB hi F x (swp dk (F + r) (F + x)) else dk) ∧ RowAt w blk off dk wx))
        case first =>
          cases B
          · go_wp2_with fail
            go_meet
            case rel =>
              have hb := HB.out.1
              refine ⟨2 * r + 1, by go_num, h1, by omega, sd_left h1 ?_, HB.out.2⟩
              rw [HG.out, HG.out] at hb
              by_cases h2 : 2 * r + 2 < hi
              · simp [h2] at hb; exact Or.inr hb
              · exact Or.inl h2
          · have hb := HB.out.1
            rw [HG.out, HG.out] at hb
            have h2 : 2 * r + 2 < hi ∧ ltB dk[F + (2 * r + 1)]! dk[F + (2 * r + 2)]! = true := by
              have := hb.symm
              simp at this
              simpa using this
            obtain ⟨h2, h3⟩ := h2
            have H3 := Lib.hid h3
            clear hb h3
            go_wp2_with fail
            go_meet
            case rel => exact ⟨2 * r + 2, by go_num, h2, by omega, sd_right h2 H3.out, HB.out.2⟩
        case rest =>
          obtain ⟨x, rfl, hx1, hx2, HX⟩ := hcut
          have hcw2 := HC.out wc HX.out.2
          go_upto_region 5 with fail
          have hl := fun W => key_less (G (F + r)) (G (F + x)) W
          cases hb : ltB (G (F + r)) (G (F + x))
          · rw [hb] at hl
            have HL := Lib.hid hl
            have HB1 := Lib.hid hb
            clear hl hb
            go_quiet (first | (go_at_call 72; refine Calls.quiet_of_same (HL.out _)))
            go_wp2
            refine bodyPost_ret (results_none rfl _ _ _) rfl ⟨rfl, ?_⟩
            have hb := HB1.out
            rw [HG.out, HG.out] at hb
            obtain ⟨g1, g2, g3⟩ := HR.out
            rw [← g3, HX.out.1, hb, if_neg (by simp)]
            exact HX.out.2.drewN _
          · rw [hb] at hl
            have HL := Lib.hid hl
            have HB1 := Lib.hid hb
            clear hl hb
            go_quiet (first | (go_at_call 72; refine Calls.quiet_of_same (HL.out _)))
            go_wp2_with fail
            have hrow := HX.out.2.drewN nq
            have HROW := Lib.hid hrow
            generalize wc.drewN nq = w3 at *
            have hcw3 := HC.out w3 HROW.out
            have hfw3 : ∀ t, t < d.size → w3.frozen? ⟨blk, off + t, none⟩ = false := fun t ht => HROW.out.frozen HH.out hbk ht
            clear hrow hcw2
            go_region
            all_goals go_wp2
            go_roundw
            case rel =>
              obtain ⟨g1, g2, g3⟩ := HR.out
              refine ⟨x, swp dk (F + r) (F + x), rfl, by omega, ?_, by rw [size_swp]; exact g2, ?_⟩
              · rw [HG.out, HG.out]
                exact HROW.out.swap hbk (by rw [HZ.out]; omega) (by rw [HZ.out]; omega) 1
              · have hb := HB1.out
                rw [HG.out, HG.out] at hb
                rw [← g3, HX.out.1, hb, if_pos rfl]
            case measure => simp [intOf]; omega
    · have t1 : (hi : Int) ≤ 2 * (r : Int) + 1 := by omega
      go_wp2
      go_end0
      obtain ⟨g1, g2, g3⟩ := HR.out
      refine ⟨rfl, ?_⟩
      rw [← g3, sd_end (by omega)]
      exact g1
end Go.Proofs.YtceejjgmepaonaaGreatDoor.Gk
