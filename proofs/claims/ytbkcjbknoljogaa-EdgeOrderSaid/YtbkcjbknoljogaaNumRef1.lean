/- Contracts of the document's Add and Sum of layer 1 (cut out of XNumRef: a later stage's reference that adds takes this text). -/
import Derived.Test.YtbkcjbknoljogaaNumAdd
import Derived.Deep.RegionWith
namespace Go.Proofs.Ytbkcjbknoljogaa
open Go.RowKit Go.ChangeShapes NumPure
theorem refAdd_any (a b : Int) (ha : -9223372036854775808 ≤ a ∧ a ≤ 9223372036854775807) (hb : -9223372036854775808 ≤ b ∧ b ≤ 9223372036854775807) (w : World) :
    Calls Try.prog 41 #[.int .i64 a, .int .i64 b] w fun e w' => e = .returned (.agg #[.int .i64 (cut (a + b)), .bool (fitsB (a + b))]) ∧ Below w.heap.size w w' := by
  obtain ⟨ha1, ha2⟩ := ha
  obtain ⟨hb1, hb2⟩ := hb
  by_cases h : -9223372036854775808 ≤ a + b ∧ a + b ≤ 9223372036854775807
  · have e1 := Lib.hid (cut_in h)
    have e2 := Lib.hid ((fits_iff _).2 h)
    obtain ⟨h1, h2⟩ := h
    by_cases h0 : 0 ≤ b
    · go_enter Try.func41, Try.ntmps41
      go_wp2
      refine bodyPost_ret (v := .agg #[.int .i64 (a + b), .bool true]) (by simp [results, Try.results41, go_sem]) rfl ⟨agg_ib e1.out.symm e2.out.symm, (Below.refl _ _).alloc (Nat.le_refl _) _⟩
    · go_enter Try.func41, Try.ntmps41
      go_wp2
      refine bodyPost_ret (v := .agg #[.int .i64 (a + b), .bool true]) (by simp [results, Try.results41, go_sem]) rfl ⟨agg_ib e1.out.symm e2.out.symm, (Below.refl _ _).alloc (Nat.le_refl _) _⟩
  · have e1 := Lib.hid (cut_out h)
    have e2 := Lib.hid ((fits_not _).2 h)
    by_cases h0 : 0 ≤ b
    · have h3 := wrap_add_up a b ha2 h0 hb2 (by omega)
      clear h
      go_enter Try.func41, Try.ntmps41
      go_wp2
      refine bodyPost_ret (v := .agg #[.int .i64 0, .bool false]) (by simp [results, Try.results41, go_sem]) rfl ⟨agg_ib e1.out.symm e2.out.symm, (Below.refl _ _).alloc (Nat.le_refl _) _⟩
    · have h3 := wrap_add_down a b ha1 (by omega) hb1 (by omega)
      clear h
      go_enter Try.func41, Try.ntmps41
      go_wp2
      refine bodyPost_ret (v := .agg #[.int .i64 0, .bool false]) (by simp [results, Try.results41, go_sem]) rfl ⟨agg_ib e1.out.symm e2.out.symm, (Below.refl _ _).alloc (Nat.le_refl _) _⟩
/-- The document's sum, number by number. -/
def RefAt (M : Nat) (w : World) (p : Int × Bool) : Prop :=
  w.cell? ⟨M, 0, none⟩ = some (.int .i64 p.1) ∧ w.cell? ⟨M, 1, none⟩ = some (.bool p.2) ∧ w.frozen? ⟨M, 0, none⟩ = false ∧ w.frozen? ⟨M, 1, none⟩ = false
theorem RefAt.on {M : Nat} {w w' : World} {p : Int × Bool} (h : RefAt M w p) (hb : Below (M + 1) w w') : RefAt M w' p := by
  obtain ⟨h0, h1, f0, f1⟩ := h
  exact ⟨(hb.cell (by simp)).trans h0, (hb.cell (by simp)).trans h1, (hb.frozen (by simp)).trans f0, (hb.frozen (by simp)).trans f1⟩
theorem RefAt.set {N : Nat} {w : World} {p : Int × Bool} (h : RefAt N w p) (q : Int × Bool) : RefAt N ((w.setCell ⟨N, 0, none⟩ (.int .i64 q.1)).setCell ⟨N, 1, none⟩ (.bool q.2)) q := by
  obtain ⟨h0, h1, f0, f1⟩ := h
  have h1' : (w.setCell ⟨N, 0, none⟩ (.int .i64 q.1)).cell? ⟨N, 1, none⟩ = some (.bool p.2) := (World.cell?_setCell_other w ⟨N, 0, none⟩ ⟨N, 1, none⟩ _ (by simp)).trans h1
  refine ⟨(World.cell?_setCell_other _ ⟨N, 1, none⟩ ⟨N, 0, none⟩ _ (by simp)).trans (World.cell?_setCell_same _ _ _ h0), World.cell?_setCell_same _ _ _ h1', ?_, ?_⟩
  · simpa using f0
  · simpa using f1
theorem RefAt.lt {M : Nat} {w : World} {p : Int × Bool} (h : RefAt M w p) : M < w.heap.size := by
  exact World.block_lt_of_cell? w _ h.1
def RefRel (N : Nat) (w : World) (l : List Int) (k : Nat) (wr : World) : Prop := k ≤ l.length ∧ Below (N + 1) w wr ∧ RefAt (N + 1) wr (sumS (l.take k))
set_option maxHeartbeats 400000 in
theorem refSum_any (a : Option Addr) (cap : Nat) (l : List Int) (w : World) (hr : Rng l) (hl : Reads w.heap.size w a l) (hlen : l.length ≤ 9223372036854775807) :
    Calls Try.prog 33 #[.slice a l.length cap] w fun e w' => e = .returned (.agg #[.int .i64 (sumS l).1, .bool (sumS l).2]) ∧ Below w.heap.size w w' := by
  have hB := ((Below.refl w.heap.size w).alloc (Nat.le_refl _) (.cells #[.int .i64 0, .bool false] 39)).alloc (by simp) (.cells #[.int .i64 0, .bool true] 39)
  have HR := Lib.hid hr; have HL := Lib.hid (hl.on hB); have HB := Lib.hid hB
  have HA : Hid (RefAt (w.heap.size + 1) ((w.alloc (.cells #[.int .i64 0, .bool false] 39)).alloc (.cells #[.int .i64 0, .bool true] 39)) (0, true)) := by
    refine ⟨?_, ?_, ?_, ?_⟩ <;> simp [go_sem]
  have HC : Hid (RefAt w.heap.size ((w.alloc (.cells #[.int .i64 0, .bool false] 39)).alloc (.cells #[.int .i64 0, .bool true] 39)) (0, false)) := by
    refine ⟨?_, ?_, ?_, ?_⟩ <;> simp [go_sem]
  clear hr hl hB
  go_enter Try.func33, Try.ntmps33
  go_wp2
  generalize hN : w.heap.size = N at *
  have HN := Lib.hid hN
  clear hN
  generalize (w.alloc (.cells #[.int .i64 0, .bool false] 39)).alloc (.cells #[.int .i64 0, .bool true] 39) = W0 at *
  go_loopw [4] (fun i wr => ∃ k : Nat, i = .int .i64 k ∧ Hid (RefRel N W0 l k wr)) (fun i _ => l.length - (intOf i).toNat)
  case atStart => exact ⟨0, rfl, ⟨Nat.zero_le _, Below.refl _ _, HA.out⟩⟩
  case round =>
    obtain ⟨k, rfl, HP⟩ := hrel
    have hk1 := HP.out.1
    obtain ⟨a0, a1, f0, f1⟩ := HP.out.2.2
    have hz := HP.out.2.2.lt
    have hcr := RefAt.on HC.out HP.out.2.1
    have HCR := Lib.hid hcr
    obtain ⟨c0, c1, g0, g1⟩ := hcr
    have hB0 := Lib.hid (HB.out.trans (HP.out.2.1.mono (by omega)))
    by_cases hlt : k < l.length
    · obtain ⟨b, off, ha, hbN, hck⟩ := (HL.out.on (HP.out.2.1.mono (by omega))).at hlt
      subst ha
      have hrk := HR.out k hlt
      have hsr := sumS_rng (l.take k)
      generalize hn : l.getD k 0 = n at *
      cases hok : (sumS (l.take k)).2
      · rw [hok] at a1
        have HO := Lib.hid hok
        clear hok hn
        go_wp2
        have hz' : sumS l = (0, false) := sumS_stays l k HO.out
        have hz1 : (sumS (l.take k)).1 = 0 := sumS_zero _ HO.out
        obtain ⟨s0, s1, _, _⟩ := HCR.out.set ((sumS (l.take k)).1, false)
        refine bodyPost_ret (v := .agg #[.int .i64 (sumS (l.take k)).1, .bool false]) (by simp [results, Try.results33, go_sem, s0, s1]) rfl ⟨agg_ib (by rw [hz', hz1]) (by rw [hz']), ?_⟩
        rw [HN.out]
        exact (hB0.out.setCell (Nat.le_refl _) _).setCell (Nat.le_refl _) _
      · rw [hok] at a1
        have HO := Lib.hid hok
        have Hn := Lib.hid hn
        clear hok hn c0 c1 g0 g1
        generalize hs : (sumS (l.take k)).1 = s at *
        have Hs := Lib.hid hs
        clear hs
        go_wp2
        go_region_with (first | (go_at_call 41; refine (refAdd_any _ _ hsr hrk _).mono ?_; rintro e w1 ⟨rfl, hb⟩; have hb2 : Below (N + 2) wr w1 := ((Below.refl _ wr).drew).trans (hb.mono (by simp; omega)); clear hb; have hq := RefAt.on HP.out.2.2 hb2; have hb0 := Lib.hid (HP.out.2.1.trans (hb2.mono (by omega))); have hq1 := Lib.hid hq; obtain ⟨q0, q1, g0, g1⟩ := hq; clear hb2))
        all_goals
          go_wp2
          refine ⟨⟨k + 1, by go_num, ?_⟩, by simp [intOf]; omega⟩
          have hst := hq1.out.set (cut (s + n), fitsB (s + n))
          refine ⟨hlt, (hb0.out.setCell (Nat.le_refl _) _).setCell (Nat.le_refl _) _, ?_⟩
          rw [sumS_take l k hlt, step_ok _ _ HO.out, Hs.out, Hn.out]
          exact hst
    · have hke : k = l.length := by omega
      subst hke
      rw [List.take_length] at a0 a1
      cases hok : (sumS l).2
      · rw [hok] at a1
        have HO := Lib.hid hok
        clear hok
        go_wp2
        obtain ⟨s0, s1, _, _⟩ := HCR.out.set ((sumS l).1, false)
        refine bodyPost_ret (v := .agg #[.int .i64 (sumS l).1, .bool false]) (by simp [results, Try.results33, go_sem, s0, s1]) rfl ⟨agg_ib rfl HO.out.symm, ?_⟩
        rw [HN.out]
        exact (hB0.out.setCell (Nat.le_refl _) _).setCell (Nat.le_refl _) _
      · rw [hok] at a1
        have HO := Lib.hid hok
        clear hok
        go_wp2
        obtain ⟨s0, s1, _, _⟩ := HCR.out.set ((sumS l).1, true)
        refine bodyPost_ret (v := .agg #[.int .i64 (sumS l).1, .bool true]) (by simp [results, Try.results33, go_sem, s0, s1]) rfl ⟨agg_ib rfl HO.out.symm, ?_⟩
        rw [HN.out]
        exact (hB0.out.setCell (Nat.le_refl _) _).setCell (Nat.le_refl _) _
end Go.Proofs.Ytbkcjbknoljogaa
