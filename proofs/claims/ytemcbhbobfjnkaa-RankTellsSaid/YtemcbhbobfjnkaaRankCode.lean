/- Contracts of the closures that the orders are made by: a place itself, none, a key, a list's number at a place; who comes ahead. -/
import Derived.Test.YtemcbhbobfjnkaaRankFill
import Derived.Test.YtemcbhbobfjnkaaRankShelf
import Derived.Shelf.SlSortCmp.QuietGrown
import Derived.Deep.RegionWith
namespace Go.Proofs.Ytemcbhbobfjnkaa
open Go.RowKit Go.ChangeShapes RankPure
theorem self_any (i : Nat) (w : World) :
    Calls Try.prog 30 #[.int .i64 (i : Int)] w fun e w' => e = .returned (.int .i64 (i : Int)) ∧ w' = w := by
  go_enter Try.func30, Try.ntmps30
  go_wp2
  go_ret
  exact ⟨rfl, rfl⟩
theorem none_any (i : Int) (w : World) :
    Calls Try.prog 26 #[.int .i64 i] w fun e w' => e = .returned (.int .i64 (-1)) ∧ w' = w := by
  go_enter Try.func26, Try.ntmps26
  go_wp2
  go_ret
  exact ⟨rfl, rfl⟩
/-- The keys, held by a closure. -/
theorem key_any (B : Nat) (a : Option Addr) (c : Nat) (ks : List Int) (i : Nat) (hi : i < ks.length) (w : World) (hB : w.cell? ⟨B, 0, none⟩ = some (.slice a ks.length c)) (hR : ReadsL encZ w.heap.size w a ks) :
    Calls Try.prog 23 #[.int .i64 (i : Int), .pointer (some ⟨B, 0, none⟩)] w fun e w' => e = .returned (.int .i64 (ks.getD i 0)) ∧ w' = w := by
  obtain ⟨b, off, rfl, hb, hc⟩ := hR.at hi
  have he : ks.getD i 0 = ks[i] := by rw [List.getD_eq_getElem?_getD, List.getElem?_eq_getElem hi]; rfl
  rw [he]
  unfold encZ at hc
  have i1 : (i : Int) < (ks.length : Int) := by omega
  generalize ks[i] = x at *
  clear hR he
  go_enter Try.func23, Try.ntmps23
  go_wp2
  go_ret
  exact ⟨rfl, rfl⟩
/-- The first of two numbers that is not 0. -/
def orI (x y : Int) : Int := if x = 0 then y else x
theorem or_any (g : Nat) (x y : Int) (w : World) (h0 : w.cell? ⟨g, 0, none⟩ = some (.int .i64 x)) (h1 : w.cell? ⟨g, 1, none⟩ = some (.int .i64 y)) :
    Calls Try.prog 33 #[.slice (some ⟨g, 0, none⟩) 2 2] w fun e w' => e = .returned (.int .i64 (orI x y)) ∧ w' = w := by
  go_enter Try.func33, Try.ntmps33
  go_wp2
  go_loopw [8] (fun i wr => ∃ k : Nat, i = .int .i64 k ∧ wr = w ∧ Hid (k ≤ 2 ∧ (1 ≤ k → x = 0) ∧ (2 ≤ k → y = 0))) (fun i _ => 2 - (intOf i).toNat)
  case atStart => exact ⟨0, rfl, rfl, Lib.hid ⟨by omega, fun h => by omega, fun h => by omega⟩⟩
  case round =>
    obtain ⟨k, rfl, rfl, HK⟩ := hrel
    obtain rfl | rfl | rfl : k = 0 ∨ k = 1 ∨ k = 2 := by have := HK.out.1; omega
    · by_cases hx : x = 0
      · have t : (x != 0) = false := by simp [hx]
        have HN := Lib.hid hx
        clear hx
        go_wp2
        go_roundw
        case rel => exact ⟨1, by go_num, trivial, Lib.hid ⟨by omega, fun _ => HN.out, fun h => by omega⟩⟩
        case measure => (simp [intOf])
      · have t : (x != 0) = true := by simp [hx]
        have HN : Hid (orI x y = x) := Lib.hid (if_neg hx)
        clear hx
        go_wp2
        go_ret
        exact ⟨by rw [HN.out]; rfl, rfl⟩
    · have h0x := Lib.hid (HK.out.2.1 (by omega))
      by_cases hx : y = 0
      · have t : (y != 0) = false := by simp [hx]
        have HN := Lib.hid hx
        clear hx
        go_wp2
        go_roundw
        case rel => exact ⟨2, by go_num, trivial, Lib.hid ⟨by omega, fun _ => h0x.out, fun h => HN.out⟩⟩
        case measure => (simp [intOf])
      · have t : (y != 0) = true := by simp [hx]
        have HN : Hid (orI x y = y) := Lib.hid (if_pos h0x.out)
        clear hx
        go_wp2
        go_ret
        exact ⟨by rw [HN.out]; rfl, rfl⟩
    · have HN : Hid (orI x y = 0) := Lib.hid (by have h1 := HK.out.2.1 (by omega); have h2 := HK.out.2.2 (by omega); unfold orI; rw [if_pos h1, h2])
      go_wp2
      go_ret
      exact ⟨by rw [HN.out]; rfl, rfl⟩
theorem cmp64_any (x y : Int) (w : World) : Calls Try.prog 34 #[.int .i64 x, .int .i64 y] w fun e w' => e = .returned (.int .i64 (Lib.compareInt x y)) ∧ w' = w := AnyG.cmp_Compare_int Try.laysCmp64 x y w
theorem cmpI_any (x y : Int) (w : World) : Calls Try.prog 35 #[.int .i64 x, .int .i64 y] w fun e w' => e = .returned (.int .i64 (Lib.compareInt x y)) ∧ w' = w := AnyG.cmp_Compare_int Try.laysCmp x y w
/-- How two places compare. -/
def cfK (ks : List Int) (i j : Nat) : Int := orI (Lib.compareInt (ks.getD i 0) (ks.getD j 0)) (Lib.compareInt i j)
set_option maxHeartbeats 1000000 in
theorem ahead_any (K B : Nat) (a : Option Addr) (c : Nat) (ks : List Int) (i j : Nat) (hi : i < ks.length) (hj : j < ks.length) (w : World)
    (hK : w.cell? ⟨K, 0, none⟩ = some (.func (.func 23) #[] #[.pointer (some ⟨B, 0, none⟩)])) (hB : w.cell? ⟨B, 0, none⟩ = some (.slice a ks.length c)) (hR : ReadsL encZ w.heap.size w a ks) :
    Calls Try.prog 32 #[.int .i64 (i : Int), .int .i64 (j : Int), .pointer (some ⟨K, 0, none⟩)] w fun e w' => e = .returned (.int .i64 (cfK ks i j)) ∧ ∃ q os, w' = Go.Sort.grow (w.drewN q) os := by
  have HI : Hid (∀ W, Below w.heap.size w W → Calls Try.prog 23 #[.int .i64 (i : Int), .pointer (some ⟨B, 0, none⟩)] W fun e w' => e = .returned (.int .i64 (ks.getD i 0)) ∧ w' = W) :=
    Lib.hid fun W hb => key_any B a c ks i hi W ((hb.cell (p := ⟨B, 0, none⟩) (World.block_lt_of_cell? w _ hB)).trans hB) (hR.over hb (Nat.le_refl _))
  have HJ : Hid (∀ W, Below w.heap.size w W → Calls Try.prog 23 #[.int .i64 (j : Int), .pointer (some ⟨B, 0, none⟩)] W fun e w' => e = .returned (.int .i64 (ks.getD j 0)) ∧ w' = W) :=
    Lib.hid fun W hb => key_any B a c ks j hj W ((hb.cell (p := ⟨B, 0, none⟩) (World.block_lt_of_cell? w _ hB)).trans hB) (hR.over hb (Nat.le_refl _))
  have HD : Hid (Below w.heap.size w w.drew) := Lib.hid (Below.drew (Below.refl _ w))
  have heg : ∀ args w, (callFunc 23 args).run Try.prog w = .ok (.enter 23 args) w := enters_of Try.func23 (by kernel_rfl) rfl
  unfold cfK
  generalize ks.getD i 0 = x at *
  generalize ks.getD j 0 = y at *
  have HX := Lib.hid (fun W => cmp64_any x y W)
  have HY := Lib.hid (fun W => cmpI_any (i : Int) (j : Int) W)
  generalize Lib.compareInt x y = r at *
  generalize Lib.compareInt (i : Int) (j : Int) = s at *
  clear hR hB
  go_enter Try.func32, Try.ntmps32
  go_wp2
  go_region_with (first
    | (go_at_fn 23; refine (HI.out _ HD.out).mono ?_; rintro e w1 ⟨rfl, rfl⟩)
    | (go_at_fn 23; refine (HJ.out _ HD.out).mono ?_; rintro e w1 ⟨rfl, rfl⟩)
    | (go_at_call 34; refine (HX.out _).mono ?_; rintro e w1 ⟨rfl, rfl⟩)
    | (go_at_call 35; refine (HY.out _).mono ?_; rintro e w1 ⟨rfl, rfl⟩)
    | (go_at_call 33; refine (or_any _ r s _ (by simp) (by simp)).mono ?_; rintro e w1 ⟨rfl, rfl⟩))
  all_goals go_wp2
  all_goals go_ret
  all_goals exact ⟨rfl, 1, #[_], Go.Sort.alloc_eq_grow (w.drewN 1) _⟩
end Go.Proofs.Ytemcbhbobfjnkaa
