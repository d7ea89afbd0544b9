/- Contract of Out, which answers a copy. -/
import Derived.Test.YtaoocokcfppmaaaCsAsk
namespace Go.Proofs.Ytaoocokcfppmaaa.Cs
open Go.RowKit Go.ChangeShapes EdPure NtPure CsPure
/-- Beside it: the answer's block is older than w0, or new. -/
def ArcsOut2 (l : List Nat) (w0 w : World) (e : Ending) (w' : World) : Prop := Below w.heap.size w w' ∧ ∃ q c, e = .returned (.slice q (zN l).length c) ∧ ReadsL encZ w'.heap.size w' q (zN l) ∧ ∀ z, q = some z → z.block < w0.heap.size ∨ w.heap.size ≤ z.block
set_option maxRecDepth 100000 in
theorem cloneN_any (a : Option Addr) (c : Nat) (l : List Int) (hl : l.length ≤ 1048576) (w : World) (h : ReadsL encZ w.heap.size w a l) :
    Calls Try.prog 30 #[.slice a l.length c] w fun e w' => Below w.heap.size w w' ∧ ∃ q c, e = .returned (.slice q l.length c) ∧ ReadsL encZ w'.heap.size w' q l ∧ ∀ z, q = some z → w.heap.size ≤ z.block := by
  have HR := Lib.hid h
  clear h
  have q22 : ∀ (w : World) (a : Option Addr) (n c n' c' : Nat), (binOp .eql 32 (.slice a n c) (.slice none n' c')).run Try.prog w = .ok (.bool a.isNone) w := fun w a n c n' c' => Lib.run_eql_slice_nil w _ _ a n c n' c' Try.underlying32
  cases a with
  | none =>
    have e : l = [] := by
      rcases HR.out with h | ⟨b, off, h, -⟩
      · exact h
      · cases h
    subst e
    go_enter Try.func30, Try.ntmps30
    go_wp2
    go_ret
    exact ⟨Below.refl _ _, none, 0, rfl, Or.inl rfl, fun z hz => by cases hz⟩
  | some ad =>
    obtain ⟨i1, hi1, hi2, hi3, hi4⟩ := info_parts (show (Try.prog.info? 3).map (fun i => (i.zero, i.size, i.bytes)) = some (some (.int .i64 0), 1, 8) by kernel_rfl)
    go_enter Try.func30, Try.ntmps30
    go_wp2_with (first
      | (at_builtin; refine wpList_append_own_at _ rfl _ _ 32 rfl w.heap.size 3 i1 (.int .i64 0) 1 8 Try.underlying32 hi1 hi2 hi3 hi4 rfl (by decide) (.slice (some ⟨w.heap.size, 0, none⟩) 0 0) 0 [] rfl (World.ownsRow_made w #[] 0 (Nat.le_refl _) (Nat.zero_le _) (by simp)) ad l.length c (l.map encZ) rfl (by simp) (fun j u hj => reads_newsI (HR.out.over ((Below.refl w.heap.size w).alloc (Nat.le_refl _) (.cells #[] 3)) (Nat.le_refl _)) j u hj) (by intro u hu; obtain ⟨m, -, rfl⟩ := List.mem_map.1 hu; rfl) (by unfold maxLen; omega) (by omega) (by simp) ?_; intro v' w6 hown6 hg6 _ _
         have hb6 : Below w.heap.size w w6 := ((Below.refl w.heap.size w).alloc (Nat.le_refl _) (.cells #[] 3)).grown hg6 (by simp) (by intro k hk; simp [Value.ownBlock] at hk; omega)
         rw [Nat.zero_add, List.nil_append] at hown6
         have HW := Lib.hid (And.intro hown6 hb6); clear hown6 hg6 hb6)
      | go_in)
    go_ret
    obtain ⟨p, cap, e, hr, -⟩ := owns_readsL rfl HW.out.1
    have hlt := HW.out.1.lt
    exact ⟨HW.out.2, p, cap, by rw [e]; rfl, hr, fun z hz => (hlt z.block (by rw [e, hz]; rfl)).1⟩
theorem zN_nil : zN [] = [] := rfl
set_option maxRecDepth 100000 in
set_option maxHeartbeats 1000000 in
theorem arcsOut2_any (p : Option Addr) (n : Nat) (M : List Ed) (_hn : n ≤ 4096) (hG : GoodN n M) (hM : M.length ≤ 10000) (v : Int) (h0 : -9223372036854775808 ≤ v) (h1 : v ≤ 9223372036854775807) (w0 w : World) (h : ArcsAt p n M w0) (hb : Below w0.heap.size w0 w) :
    Calls Try.prog 10 #[.pointer p, .int .i64 v] w fun e w' => ArcsOut2 (outN M v n) w0 w e w' := by
  replace h := h.over hb
  clear hb
  by_cases hv : 0 ≤ v ∧ v < n
  · obtain ⟨k, rfl⟩ : ∃ k : Nat, v = k := ⟨v.toNat, by omega⟩
    have hk : k < n := by omega
    have HE : Hid (outN M (k : Int) n = outE M (k : Int) M.length) := Lib.hid (out_eq hG hv.1)
    have HL : Hid ((zN (outE M (k : Int) M.length)).length ≤ 1048576) := Lib.hid (by
      have := out_len hG.1 (k : Int) n
      rw [HE.out] at this
      rw [zN_len]; omega)
    have HN := Lib.hid (arcsN_any p n M w h)
    rw [HE.out]
    have t0 : decide ((k : Int) < 0) = false := decide_eq_false (by omega)
    have t1 : decide ((k : Int) ≥ (n : Int)) = false := decide_eq_false (by omega)
    have i0 : (0 : Int) ≤ (k : Int) := by omega
    have i1 : (k : Int) < (n : Int) := by omega
    have HA := Lib.hid h
    clear hv h
    obtain ⟨l, hl⟩ : ∃ l, outE M (k : Int) M.length = l := ⟨_, rfl⟩
    rw [hl] at HL HE ⊢
    have HX : Hid (∀ j : Nat, j = k → outE M (j : Int) M.length = l) := Lib.hid (fun j e => by rw [e, hl])
    clear hl
    go_enter Try.func10, Try.ntmps10
    go_wp2_with fail
    refine HN.out.mono ?_
    rintro e w1 ⟨rfl, hb1⟩
    have HB1 := Lib.hid hb1
    have HA1 := HA.out.over hb1
    clear hb1 HA HN
    rcases HA1 with ⟨rfl, rfl, rfl⟩ | ⟨g, pe, ce, pv, cv, rfl, g2, g3, g4, -, g6⟩
    · exfalso; omega
    rcases g6 with g6 | ⟨b, rfl, gb, gc⟩
    · exfalso; omega
    obtain ⟨q, c, g7, hr⟩ := gc k hk
    rw [HX.out k rfl] at g7 hr
    have HR := Lib.hid hr
    have HZ := Lib.hid (cloneN_any q c (zN l) HL.out w1 hr)
    rw [zN_len] at HZ
    clear gc hr
    go_wp2_with (first | (go_at_call 30; refine HZ.out.mono ?_; rintro e w2 ⟨hb2, q2, c2, rfl, hr2, hn2⟩; have HB2 := Lib.hid (HB1.out.trans (hb2.mono HB1.out.size)); have HR2 := Lib.hid (And.intro hr2 hn2); clear hb2 hr2 hn2))
    go_ret
    have hs := HB1.out.size
    exact ⟨HB2.out, q2, c2, by rw [zN_len]; rfl, HR2.out.1, fun z hz => Or.inr (Nat.le_trans hs (HR2.out.2 z hz))⟩
  · have HE : Hid (outN M v n = []) := Lib.hid (by
      by_cases hn : v < 0
      · exact out_none hn _
      · exact out_far hG (by omega) _)
    have HN := Lib.hid (arcsN_any p n M w h)
    rw [HE.out]
    clear h
    by_cases hn : v < 0
    · have t0 : decide (v < 0) = true := decide_eq_true hn
      clear hv
      go_enter Try.func10, Try.ntmps10
      go_wp2
      go_ret
      exact ⟨Below.refl _ _, none, 0, rfl, Or.inl rfl, fun z hz => by cases hz⟩
    · have t0 : decide (v < 0) = false := decide_eq_false hn
      have t1 : decide (v ≥ (n : Int)) = true := decide_eq_true (by omega)
      clear hv
      go_enter Try.func10, Try.ntmps10
      go_wp2_with (first | (go_at_call 8; refine HN.out.mono ?_; rintro e w1 ⟨rfl, hb1⟩; have HB1 := Lib.hid hb1; clear hb1))
      go_ret
      exact ⟨HB1.out, none, 0, rfl, Or.inl rfl, fun z hz => by cases hz⟩
theorem arcsOut_any (p : Option Addr) (n : Nat) (M : List Ed) (hn : n ≤ 4096) (hG : GoodN n M) (hM : M.length ≤ 10000) (v : Int) (h0 : -9223372036854775808 ≤ v) (h1 : v ≤ 9223372036854775807) (w : World) (h : ArcsAt p n M w) :
    Calls Try.prog 10 #[.pointer p, .int .i64 v] w fun e w' => ArcsOut (outN M v n) w e w' := by
  refine (arcsOut2_any p n M hn hG hM v h0 h1 w w h (Below.refl _ _)).mono ?_
  rintro e w' ⟨h1, q, c, h2, h3, -⟩
  exact ⟨h1, q, c, h2, h3⟩
end Go.Proofs.Ytaoocokcfppmaaa.Cs
