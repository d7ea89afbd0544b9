/- The library's sort of keys, however many. -/
import Derived.Test.YtceejjgmepaonaaGreatDoorPk10
import Derived.Test.YtceejjgmepaonaaGreatDoorPk11
import Derived.Test.YtceejjgmepaonaaGreatDoorPk12
import Derived.Test.YtceejjgmepaonaaGreatDoorPk13
import Derived.Test.YtceejjgmepaonaaGreatDoorPk14
namespace Go.Proofs.YtceejjgmepaonaaGreatDoor.Gk
open Go.RowKit
open Go.Sort hiding Below
set_option maxHeartbeats 8000000 in
set_option maxRecDepth 100000 in
theorem pdq_succ (m : Nat) (ih : PdqOk m) : PdqOk (m + 1) := by
  intro blk off cap a0 b0 limit d w hm hH hbk hab0 hb0 hsz hlim hB
  have HH := Lib.hid hH
  have HS : Hid (LoopRel w blk off a0 b0 d a0 b0 d w) := ⟨RowAt.start hH, Left.start hB⟩
  have IH := Lib.hid ih
  clear hH hB ih
  go_enter Tryz.func54, Tryz.ntmps54
  go_wp2
  go_loopw [1, 2, 3, 8, 9] (fun s1 s2 s3 s8 s9 wr => ∃ (a b lim : Nat) (wb wp : Bool) (dk : Array Nat), s1 = .int .i64 a ∧ s2 = .int .i64 b ∧ s3 = .int .i64 lim ∧ s8 = .bool wb ∧ s9 = .bool wp ∧ a ≤ b ∧ b ≤ d.size ∧ b - a ≤ m + 1 ∧ lim < 4611686018427387904 ∧
    Hid (LoopRel w blk off a0 b0 d a b dk wr)) (fun s1 s2 _ _ _ _ => (intOf s2).toNat - (intOf s1).toNat)
  case atStart => exact ⟨a0, b0, limit, true, true, d, rfl, rfl, rfl, rfl, rfl, hab0, hb0, hm, hlim, HS⟩
  case round =>
    obtain ⟨a, b, lim, wb, wp, dk, rfl, rfl, rfl, rfl, rfl, hab, hb, hbm, hl, HL⟩ := hrel
    have hzk : dk.size = d.size := HL.out.2.1
    by_cases h12 : b - a ≤ 12
    · have hd : decide ((b : Int) - (a : Int) ≤ 12) = true := by simp; omega
      have c := ins_any blk off cap a b dk wr (HL.out.holds HH.out hbk) (HL.out.size hbk) hab (by omega) (by omega)
      rw [hzk] at c
      have C := Lib.hid c
      clear c hzk
      go_wp2_with (first | (go_at_call 66; go_fit C.out; rintro e w' ⟨rfl, ht⟩; have HT := Lib.hid ht; clear ht))
      obtain ⟨d1, h1, h2, h3⟩ := HT.out
      exact bodyPost_ret (results_none rfl _ _ _) rfl ⟨rfl, HL.out.sorted hbk h1 h2 h3⟩
    · have hd : decide ((b : Int) - (a : Int) ≤ 12) = false := by simp; omega
      by_cases hl0 : lim = 0
      · subst hl0
        have c := heap_any blk off cap a b dk wr (HL.out.holds HH.out hbk) (HL.out.size hbk) (by omega) (by omega) (by omega)
        rw [hzk] at c
        have C := Lib.hid c
        clear c hzk
        go_wp2_with (first | (go_at_call 67; go_fit C.out; rintro e w' ⟨rfl, ht⟩; have HT := Lib.hid ht; clear ht))
        obtain ⟨d1, h1, h2, h3⟩ := HT.out
        exact bodyPost_ret (results_none rfl _ _ _) rfl ⟨rfl, HL.out.sorted hbk h1 h2 h3⟩
      · go_upto_if 35 with fail
        go_cut [3] from 19 to 133 (fun s3 wx => ∃ lim' : Nat, s3 = .int .i64 lim' ∧ lim' < 4611686018427387904 ∧ Hid (∃ d1, LoopRel w blk off a0 b0 d a b d1 wx))
        case first =>
          cases wb
          · have c := break_any blk off cap a b dk wr (HL.out.holds HH.out hbk) (HL.out.size hbk) (by omega) (by omega) (by omega)
            rw [hzk] at c
            have C := Lib.hid c
            clear c hzk
            go_wp2_with fail
            go_fit C.out
            rintro e w1 ⟨rfl, ht⟩
            have HT := Lib.hid ht
            clear ht
            go_wp2_with fail
            go_meet
            case rel =>
              obtain ⟨d1, h1, h2⟩ := HT.out
              exact ⟨lim - 1, by congr 1; omega, by omega, d1, HL.out.step hbk hb h1 h2⟩
          · go_wp2_with fail
            go_meet
            case rel => exact ⟨lim, rfl, hl, dk, HL.out⟩
        case rest =>
          obtain ⟨lim', rfl, hl', d1, h1⟩ := hcut
          have HL1 := Lib.hid h1
          have hz1 : d1.size = d.size := h1.2.1
          have c := pivot_any blk off cap a b d1 wc (h1.holds HH.out hbk) (h1.size hbk) (by omega) (by omega) (by omega)
          rw [hz1] at c
          have C := Lib.hid c
          clear c hz1 hzk h1
          go_wp2_with fail
          go_fit C.out
          rintro e w1 ⟨pv, hint, rfl, hp1, hp2, hh, hr⟩
          have HL2 := Lib.hid (HL1.out.step hbk hb hr (permIn_refl _ _ _))
          clear hr C HL1
          go_upto_if 50 with fail
          go_cut [11, 12] from 19 to 133 (fun s11 s12 wx => ∃ pv' h' : Nat, s11 = .int .i64 pv' ∧ s12 = .int .i64 h' ∧ a ≤ pv' ∧ pv' < b ∧ (h' = 0 ∨ h' = 1) ∧ Hid (∃ d2, LoopRel w blk off a0 b0 d a b d2 wx))
          case first =>
            rcases hh with rfl | rfl | rfl
            · go_wp2_with fail
              go_meet
              case rel => exact ⟨pv, 0, rfl, rfl, hp1, hp2, Or.inl rfl, d1, HL2.out⟩
            · go_wp2_with fail
              go_meet
              case rel => exact ⟨pv, 1, rfl, rfl, hp1, hp2, Or.inr rfl, d1, HL2.out⟩
            · have c := rev_any blk off cap a b d1 w1 (HL2.out.holds HH.out hbk) (HL2.out.size hbk) (by omega) (by rw [HL2.out.2.1]; omega) (by rw [HL2.out.2.1]; omega)
              rw [HL2.out.2.1] at c
              have C := Lib.hid c
              clear c
              go_wp2_with fail
              go_fit C.out
              rintro e w2 ⟨rfl, ht⟩
              have HT := Lib.hid ht
              clear ht
              go_wp2_with fail
              go_meet
              case rel =>
                obtain ⟨d2, g1, g2⟩ := HT.out
                exact ⟨(b - 1) - (pv - a), 1, by congr 1; omega, rfl, by omega, by omega, Or.inr rfl, d2, HL2.out.step hbk hb g1 g2⟩
          case rest =>
            obtain ⟨qv, hint, rfl, rfl, hq1, hq2, hh', d2, h2⟩ := hcut
            have HL3 := Lib.hid h2
            clear h2 HL2 hp1 hp2 hh
            go_upto_region 15 with fail
            go_cut [68] from 19 to 133 (fun v wx => ∃ B : Bool, v = .bool B ∧ wx = wc)
            case first =>
              rcases hh' with rfl | rfl <;> cases wb <;> cases wp
              all_goals
                go_wp2_with fail
                go_meet
                case rel => exact ⟨_, rfl, rfl⟩
            case rest =>
              obtain ⟨B, rfl, rfl⟩ := hcut
              go_upto_if 68 with fail
              go_cut [] from 19 to 133 (fun wx => Hid (∃ d3, LoopRel w blk off a0 b0 d a b d3 wx))
              case first =>
                cases B
                · go_wp2_with fail
                  go_meet
                  case rel => exact ⟨d2, HL3.out⟩
                · have c := partial_any blk off cap a b d2 wc (HL3.out.holds HH.out hbk) (HL3.out.size hbk) (by omega) (by rw [HL3.out.2.1]; omega) (by rw [HL3.out.2.1]; omega) HL3.out.2.2.1
                  rw [HL3.out.2.1] at c
                  have C := Lib.hid c
                  clear c
                  go_wp2_with fail
                  go_fit C.out
                  rintro e w2 ⟨B2, rfl, ht⟩
                  have HT := Lib.hid ht
                  clear ht
                  cases B2
                  · go_wp2_with fail
                    go_meet
                    case rel =>
                      obtain ⟨d3, g1, g2, -⟩ := HT.out
                      exact ⟨d3, HL3.out.step hbk hb g1 g2⟩
                  · go_wp2_with fail
                    obtain ⟨d3, g1, g2, g3⟩ := HT.out
                    exact bodyPost_ret (results_none rfl _ _ _) rfl ⟨rfl, HL3.out.sorted hbk g1 g2 (g3 trivial)⟩
              case rest =>
                obtain ⟨d3, h3⟩ := hcut
                have HL4 := Lib.hid h3
                clear h3 HL3
                have HZ : Hid (d3.size = d.size) := HL4.out.2.1
                obtain ⟨G, hG⟩ := named d3
                have hcw : ∀ t, t < d.size → wc.cell? ⟨blk, off + t, none⟩ = some (.int .u32 (G t : Int)) := fun t ht => by
                  rw [hG]; exact HL4.out.1.cell HH.out hbk HZ.out ht
                have HG := Lib.hid hG
                clear hG
                go_upto_region 17 with fail
                go_cut [87] from 19 to 133 (fun v wx => ∃ B : Bool, v = .bool B ∧ Hid ((B = true → 0 < a ∧ ltB d3[a - 1]! d3[qv]! = false) ∧ LoopRel w blk off a0 b0 d a b d3 wx))
                case first =>
                  by_cases ha0 : 0 < a
                  · have hless := fun W => key_less (G (a - 1)) (G qv) W
                    cases hq : ltB (G (a - 1)) (G qv)
                    · rw [hq] at hless
                      have HLS := Lib.hid hless
                      have HQ : Hid (ltB d3[a - 1]! d3[qv]! = false) := by rw [← HG.out, ← HG.out]; exact hq
                      clear hless hq
                      go_quiet (first | (go_at_call 72; refine Calls.quiet_of_same (HLS.out _)))
                      go_wp2_with fail
                      go_meet
                      case rel => exact ⟨true, rfl, fun _ => ⟨ha0, HQ.out⟩, HL4.out.1.drewN _, HL4.out.2⟩
                    · rw [hq] at hless
                      have HLS := Lib.hid hless
                      clear hless hq
                      go_quiet (first | (go_at_call 72; refine Calls.quiet_of_same (HLS.out _)))
                      go_wp2_with fail
                      go_meet
                      case rel => exact ⟨false, rfl, fun h => by simp at h, HL4.out.1.drewN _, HL4.out.2⟩
                  · have t2 : decide (0 < (a : Int)) = false := decide_eq_false (by omega)
                    go_quiet (first | (go_at_call 72; refine Calls.quiet_of_same (key_less _ _ _)))
                    go_wp2_with fail
                    go_meet
                    case rel => exact ⟨false, rfl, fun h => by simp at h, HL4.out.1.drewN _, HL4.out.2⟩
                case rest =>
                  obtain ⟨B, rfl, hB, hw⟩ := hcut
                  have HL5 := Lib.hid hw
                  have HBB := Lib.hid hB
                  clear hB hw hcw HL4
                  cases B
                  · have c := part_any blk off cap a b qv d3 wc (HL5.out.holds HH.out hbk) (HL5.out.size hbk) hq1 hq2 (by rw [HZ.out]; omega) (by rw [HZ.out]; omega)
                    rw [HZ.out] at c
                    have C := Lib.hid c
                    clear c
                    go_wp2_with fail
                    go_fit C.out
                    rintro e w2 ⟨mm, ap, rfl, hm1, hm2, ht⟩
                    obtain ⟨d4, hd4⟩ := ht
                    have HD := Lib.hid hd4
                    have HZ4 : Hid (d4.size = d.size) := hd4.2.1.1.trans HZ.out
                    have H4 : Hid (Holds encU w2 blk off d4) := (HL5.out.1.trans hd4.1 hbk hd4.2.1.1).holds HH.out hbk HZ4.out
                    have HW2 : Hid (blk < w2.heap.size) := Nat.lt_of_lt_of_le (HL5.out.size hbk) hd4.1.size
                    clear hd4 C
                    by_cases hlr : mm - a < b - mm
                    · have c := IH.out blk off cap a mm lim' d4 w2 (by omega) H4.out HW2.out hm1 (by rw [HZ4.out]; omega) (by rw [HZ4.out]; omega) hl' (HL5.out.2.below1 hb hm2 HD.out.2.1)
                      rw [HZ4.out] at c
                      have C := Lib.hid c
                      clear c
                      go_wp2_with fail
                      go_fit C.out
                      rintro e w3 ⟨rfl, ht⟩
                      obtain ⟨L, g1, g2, g3⟩ := ht
                      have HN : Hid (LoopRel w blk off a0 b0 d (mm + 1) b L w3) :=
                        ⟨(HL5.out.1.trans HD.out.1 hbk HD.out.2.1.1).trans g1 hbk g2.1, HL5.out.2.first hb hm1 hm2 HD.out.2.1 HD.out.2.2.1 HD.out.2.2.2 g2 g3⟩
                      clear g1 g2 g3 C
                      go_wp2
                      go_roundw
                      case rel => exact ⟨mm + 1, b, lim', _, ap, L, by go_num, rfl, rfl, rfl, rfl, by omega, hb, by omega, hl', HN⟩
                      case measure => (simp [intOf] <;> omega)
                    · have hB4 : Sort.Below ltB (mm + 1) b d4 := Or.inr fun i hi hi' => by rw [Nat.add_sub_cancel]; exact HD.out.2.2.2 i (by omega) hi'
                      have c := IH.out blk off cap (mm + 1) b lim' d4 w2 (by omega) H4.out HW2.out (by omega) (by rw [HZ4.out]; omega) (by rw [HZ4.out]; omega) hl' hB4
                      rw [HZ4.out, show ((mm + 1 : Nat) : Int) = (mm : Int) + 1 by omega] at c
                      have C := Lib.hid c
                      clear c hB4
                      go_wp2_with fail
                      go_fit C.out
                      rintro e w3 ⟨rfl, ht⟩
                      obtain ⟨L, g1, g2, g3⟩ := ht
                      have HN : Hid (LoopRel w blk off a0 b0 d a mm L w3) :=
                        ⟨(HL5.out.1.trans HD.out.1 hbk HD.out.2.1.1).trans g1 hbk g2.1, HL5.out.2.second hb hm1 hm2 HD.out.2.1 HD.out.2.2.1 HD.out.2.2.2 g2 g3⟩
                      clear g1 g2 g3 C
                      go_wp2
                      go_roundw
                      case rel => exact ⟨a, mm, lim', _, ap, L, rfl, rfl, rfl, rfl, rfl, hm1, by omega, by omega, hl', HN⟩
                      case measure => (simp [intOf] <;> omega)
                  · obtain ⟨ha0, hP⟩ := HBB.out rfl
                    have HP := Lib.hid hP
                    have c := partEq_any blk off cap a b qv d3 wc (HL5.out.holds HH.out hbk) (HL5.out.size hbk) hq1 hq2 (by rw [HZ.out]; omega) (by rw [HZ.out]; omega)
                    rw [HZ.out] at c
                    have C := Lib.hid c
                    clear c hP
                    go_wp2_with fail
                    go_fit C.out
                    rintro e w2 ⟨mm, rfl, hm1, hm2, ht⟩
                    obtain ⟨d4, g1, g2, g3, g4⟩ := ht
                    have HN : Hid (LoopRel w blk off a0 b0 d mm b d4 w2) := ⟨HL5.out.1.trans g1 hbk g2.1, HL5.out.2.eq hb ha0 HP.out hm1 hm2 g2 g3 g4⟩
                    clear g1 g2 g3 g4 C
                    go_wp2
                    go_roundw
                    case rel => exact ⟨mm, b, lim', wb, wp, d4, rfl, rfl, rfl, rfl, rfl, hm2, hb, by omega, hl', HN⟩
                    case measure => (simp [intOf] <;> omega)
theorem pdq_all : ∀ m, PdqOk m
  | 0 => fun blk off cap a b limit d w h => pdq_12 blk off cap a b limit d w (by omega)
  | m + 1 => pdq_succ m (pdq_all m)
/-- slices.Sort sorts keys, up to a million of them. -/
theorem sort_all : SortOk 1000000 := sort_of 1000000 (by decide) (pdq_all 1000000)
end Go.Proofs.YtceejjgmepaonaaGreatDoor.Gk
