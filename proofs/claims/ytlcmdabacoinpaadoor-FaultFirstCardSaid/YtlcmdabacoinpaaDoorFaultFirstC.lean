/- First: the fault of the least place. -/
import Derived.Test.YtlcmdabacoinpaaDoorFaultPick
import Derived.BigRegion
namespace Go.Proofs.YtlcmdabacoinpaaDoor
open Go.RowKit Go.ChangeShapes
namespace Ft
set_option maxHeartbeats 1000000 in
theorem first_any (a : Option Addr) (cap : Nat) (l : List (Int × Int)) (w : World) (hl : ReadsP w.heap.size w a l) (hlen : l.length ≤ 1000000) :
    Calls Tryd.prog 14 #[.slice a l.length cap] w fun x w' => x = .returned (.tuple #[.agg #[.int .i64 (foldF l).1, .int .i64 (foldF l).2], .bool ((foldF l).1 != 0)]) ∧ Below w.heap.size w w' := by
  have HS := Lib.hid (firstRel_start w l)
  have HL := Lib.hid hl
  clear hl
  go_enter Tryd.func14, Tryd.ntmps14
  go_wp2
  go_loopw [9] (fun i wr => ∃ k : Nat, i = .int .i64 k ∧ Hid (FirstRel w l k wr)) (fun i _ => l.length - (intOf i).toNat)
  case atStart => exact ⟨0, rfl, HS⟩
  case round =>
    obtain ⟨k, rfl, HF⟩ := hrel
    have hk := HF.out.1
    by_cases hlt : k < l.length
    · obtain ⟨b, off, rfl, hbN, hc0, hc1⟩ := (HL.out.on HF.out.2.1).at hlt
      obtain ⟨f0, f1, g0, g1⟩ := HF.out.2.2.2
      have hltN : w.heap.size + 1 < wr.heap.size := HF.out.2.2.2.lt
      have hb := HF.out.2.1.size
      have HN := Lib.hid (takeF_next l k hlt)
      have HB := Lib.hid HF.out.2.1
      have HZ := Lib.hid HF.out.2.2.1
      have HC := Lib.hid HF.out.2.2.2
      clear HF
      generalize foldF (l.take k) = c at *
      generalize l[k] = f at *
      obtain ⟨c1, c2⟩ := c
      obtain ⟨x, y⟩ := f
      simp only at hc0 hc1 f0 f1
      have KS : Hid (stepF (c1, c2) (x, y) = (c1, c2) → FirstRel w l (k + 1) (wr.alloc (.cells #[.int .i64 x, .int .i64 y] 39))) :=
        Lib.hid fun e => ⟨hlt, HB.out.alloc hb _, HZ.out.on ((Below.refl _ _).alloc (Nat.le_refl _) _) HZ.out.lt, by rw [HN.out, e]; exact HC.out.on ((Below.refl _ _).alloc (Nat.le_refl _) _) HC.out.lt⟩
      have KT : Hid (stepF (c1, c2) (x, y) = (x, y) → FirstRel w l (k + 1) (((wr.setCell ⟨w.heap.size + 1, 0, none⟩ (.int .i64 x)).setCell ⟨w.heap.size + 1, 1, none⟩ (.int .i64 y)).alloc (.cells #[.int .i64 x, .int .i64 y] 39))) :=
        Lib.hid fun e => by
          have g2 := HZ.out.two_past (M := w.heap.size + 1) (by omega) (.int .i64 x) (.int .i64 y)
          have g3 := HC.out.set (.int .i64 x) (.int .i64 y)
          refine ⟨hlt, ((HB.out.setCell (p := ⟨w.heap.size + 1, 0, none⟩) (by simp) _).setCell (p := ⟨w.heap.size + 1, 1, none⟩) (by simp) _).alloc (by simpa using hb) _, g2.on ((Below.refl _ _).alloc (Nat.le_refl _) _) g2.lt, ?_⟩
          rw [HN.out, e]
          exact g3.on ((Below.refl _ _).alloc (Nat.le_refl _) _) g3.lt
      by_cases hx : x = 0
      · have t : (x != 0) = false := by simpa using hx
        have hs := step_skip (c := (c1, c2)) (f := (x, y)) (Or.inl hx)
        have HR := Lib.hid (KS.out hs)
        clear hx hs
        go_wp2
        go_roundw
        case rel => exact ⟨k + 1, by go_num, HR⟩
        case measure => (simp [intOf] <;> omega)
      · have t : (x != 0) = true := by simpa using hx
        by_cases hc : c1 = 0
        · have t2 : (c1 == 0) = true := by simpa using hc
          have hs := step_take (c := (c1, c2)) (f := (x, y)) hx (Or.inl hc)
          have HR := Lib.hid (KT.out hs)
          clear hx hs hc
          go_wp2
          go_roundw
          case rel => exact ⟨k + 1, by go_num, HR⟩
          case measure => (simp [intOf] <;> omega)
        · have t2 : (c1 == 0) = false := by simpa using hc
          by_cases hy : y < c2
          · have hs := step_take (c := (c1, c2)) (f := (x, y)) hx (Or.inr hy)
            have HR := Lib.hid (KT.out hs)
            clear hx hs hc
            go_wp2
            go_roundw
            case rel => exact ⟨k + 1, by go_num, HR⟩
            case measure => (simp [intOf] <;> omega)
          · have hs := step_skip (c := (c1, c2)) (f := (x, y)) (Or.inr ⟨hc, hy⟩)
            have HR := Lib.hid (KS.out hs)
            clear hx hs hc
            go_wp2
            go_roundw
            case rel => exact ⟨k + 1, by go_num, HR⟩
            case measure => (simp [intOf] <;> omega)
    · have hke : k = l.length := by omega
      have HR : Hid (FirstRel w l l.length wr) := by rw [← hke]; exact HF
      clear HF
      obtain ⟨-, hb, hz, hc⟩ := HR.out
      rw [List.take_length] at hc
      obtain ⟨c1, hc1⟩ : ∃ c, (foldF l).1 = c := ⟨_, rfl⟩
      obtain ⟨c2, hc2⟩ : ∃ c, (foldF l).2 = c := ⟨_, rfl⟩
      rw [hc1, hc2] at hc
      have HE := Lib.hid (And.intro hc1 hc2)
      clear hc1 hc2
      obtain ⟨z0, z1, y0, y1⟩ := hz
      obtain ⟨f0, f1, g0, g1⟩ := hc
      have hltN := World.block_lt_of_cell? wr _ f0
      have HB := Lib.hid hb
      have hsz := hb.size
      have HX := Lib.hid (TwoAt.set (N := w.heap.size) (w := wr) ⟨z0, z1, y0, y1⟩ (.int .i64 c1) (.int .i64 c2))
      clear hb HR hke
      go_wp2
      go_region
      obtain ⟨x0, x1, -, -⟩ := HX.out
      have x0' : ((wr.setCell ⟨w.heap.size, 0, none⟩ (.int .i64 c1)).setCell ⟨w.heap.size, 1, none⟩ (.int .i64 c2)).drew.cell? ⟨w.heap.size, 0, none⟩ = some (.int .i64 c1) := x0
      have x1' : ((wr.setCell ⟨w.heap.size, 0, none⟩ (.int .i64 c1)).setCell ⟨w.heap.size, 1, none⟩ (.int .i64 c2)).drew.cell? ⟨w.heap.size, 1, none⟩ = some (.int .i64 c2) := x1
      have HB2 := Lib.hid (((HB.out.setCell (p := ⟨w.heap.size, 0, none⟩) (Nat.le_refl _) (.int .i64 c1)).setCell (p := ⟨w.heap.size, 1, none⟩) (Nat.le_refl _) (.int .i64 c2)).drew)
      clear x0 x1 z0 z1 f0 f1 y0 y1 g0 g1
      generalize ((wr.setCell ⟨w.heap.size, 0, none⟩ (.int .i64 c1)).setCell ⟨w.heap.size, 1, none⟩ (.int .i64 c2)).drew = w3 at *
      have hlt3 := World.block_lt_of_cell? w3 _ x0'
      go_wp2
      exact bodyPost_ret (v := .tuple #[.agg #[.int .i64 c1, .int .i64 c2], .bool (c1 != 0)]) (by simp [results, Tryd.results14, go_sem, x0', x1']) rfl ⟨by rw [HE.out.1, HE.out.2], HB2.out⟩
end Ft
end Go.Proofs.YtlcmdabacoinpaaDoor
