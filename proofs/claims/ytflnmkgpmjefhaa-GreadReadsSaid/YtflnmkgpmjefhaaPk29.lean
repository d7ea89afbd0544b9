/- Texts that the laws of this seat stand on, part 29. -/
import Derived.Test.YtflnmkgpmjefhaaPk14
import Derived.Deep.RegionWith
import Derived.Test.YtflnmkgpmjefhaaPk15
import Derived.Test.YtflnmkgpmjefhaaPk24
/- Contracts of the document's Add and Sum of layer 1 (cut out of XNumRef: a later stage's reference that adds takes this text). -/
namespace Go.Proofs.Ytflnmkgpmjefhaa
open Go.RowKit Go.ChangeShapes NumPure
theorem refAdd_any (a b : Int) (ha : -9223372036854775808 ≤ a ∧ a ≤ 9223372036854775807) (hb : -9223372036854775808 ≤ b ∧ b ≤ 9223372036854775807) (w : World) :
    Calls Try.prog 68 #[.int .i64 a, .int .i64 b] w fun e w' => e = .returned (.agg #[.int .i64 (cut (a + b)), .bool (fitsB (a + b))]) ∧ Below w.heap.size w w' := by
  obtain ⟨ha1, ha2⟩ := ha
  obtain ⟨hb1, hb2⟩ := hb
  by_cases h : -9223372036854775808 ≤ a + b ∧ a + b ≤ 9223372036854775807
  · have e1 := Lib.hid (cut_in h)
    have e2 := Lib.hid ((fits_iff _).2 h)
    obtain ⟨h1, h2⟩ := h
    by_cases h0 : 0 ≤ b
    · go_enter Try.func68, Try.ntmps68
      go_wp2
      refine bodyPost_ret (v := .agg #[.int .i64 (a + b), .bool true]) (by simp [results, Try.results68, go_sem]) rfl ⟨agg_ib e1.out.symm e2.out.symm, (Below.refl _ _).alloc (Nat.le_refl _) _⟩
    · go_enter Try.func68, Try.ntmps68
      go_wp2
      refine bodyPost_ret (v := .agg #[.int .i64 (a + b), .bool true]) (by simp [results, Try.results68, go_sem]) rfl ⟨agg_ib e1.out.symm e2.out.symm, (Below.refl _ _).alloc (Nat.le_refl _) _⟩
  · have e1 := Lib.hid (cut_out h)
    have e2 := Lib.hid ((fits_not _).2 h)
    by_cases h0 : 0 ≤ b
    · have h3 := wrap_add_up a b ha2 h0 hb2 (by omega)
      clear h
      go_enter Try.func68, Try.ntmps68
      go_wp2
      refine bodyPost_ret (v := .agg #[.int .i64 0, .bool false]) (by simp [results, Try.results68, go_sem]) rfl ⟨agg_ib e1.out.symm e2.out.symm, (Below.refl _ _).alloc (Nat.le_refl _) _⟩
    · have h3 := wrap_add_down a b ha1 (by omega) hb1 (by omega)
      clear h
      go_enter Try.func68, Try.ntmps68
      go_wp2
      refine bodyPost_ret (v := .agg #[.int .i64 0, .bool false]) (by simp [results, Try.results68, go_sem]) rfl ⟨agg_ib e1.out.symm e2.out.symm, (Below.refl _ _).alloc (Nat.le_refl _) _⟩
/-- The document's sum, number by number. -/
def RefAt (M : Nat) (w : World) (p : Int × Bool) : Prop :=
  w.cell? ⟨M, 0, none⟩ = some (.int .i64 p.1) ∧ w.cell? ⟨M, 1, none⟩ = some (.bool p.2) ∧ w.frozen? ⟨M, 0, none⟩ = false ∧ w.frozen? ⟨M, 1, none⟩ = false
theorem RefAt.on {M : Nat} {w w' : World} {p : Int × Bool} (h : RefAt M w p) (hb : Below (M + 1) w w') : RefAt M w' p := by
  obtain ⟨h0, h1, f0, f1⟩ := h
  exact ⟨(hb.cell (by simp)).trans h0, (hb.cell (by simp)).trans h1, (hb.frozen (by simp)).trans f0, (hb.frozen (by simp)).trans f1⟩
theorem RefAt.set {N : Nat} {w : World} {p : Int × Bool} (h : RefAt N w p) (q : Int × Bool) : RefAt N ((w.setCell ⟨N, 0, none⟩ (.int .i64 q.1)).setCell ⟨N, 1, none⟩ (.bool q.2)) q := by
  obtain ⟨h0, h1, f0, f1⟩ := h
  have h1' : (w.setCell ⟨N, 0, none⟩ (.int .i64 q.1)).cell? ⟨N, 1, none⟩ = some (.bool p.2) := (World.cell?_setCell_other w ⟨N, 0, none⟩ ⟨N, 1, none⟩ _ (by simp)).trans h1
  refine ⟨(World.cell?_setCell_other _ ⟨N, 1, none⟩ ⟨N, 0, none⟩ _ (by simp)).trans (World.cell?_setCell_same _ _ _ h0), World.cell?_setCell_same _ _ _ h1', ?_, ?_⟩
  · simpa using f0
  · simpa using f1
theorem RefAt.lt {M : Nat} {w : World} {p : Int × Bool} (h : RefAt M w p) : M < w.heap.size := by
  exact World.block_lt_of_cell? w _ h.1
def RefRel (N : Nat) (w : World) (l : List Int) (k : Nat) (wr : World) : Prop := k ≤ l.length ∧ Below (N + 1) w wr ∧ RefAt (N + 1) wr (sumS (l.take k))
end Go.Proofs.Ytflnmkgpmjefhaa
/- The document's Check, Normal, Cmp, Checks, Find, Total, Same. -/
namespace Go.Proofs.Ytflnmkgpmjefhaa
open Go.RowKit Go.ChangeShapes EdPure NumPure
theorem refCheck_any (n : Int) (e : Ed) (w : World) :
    Calls Try.prog 56 #[.int .i64 n, encE e] w fun r w' => r = .returned (.int .i64 (chkE n e)) ∧ Below w.heap.size w w' := by
  obtain ⟨u, v, x⟩ := e
  unfold encE
  by_cases h1 : u < 0
  · have HE : Hid (chkE n (u, v, x) = 4) := Lib.hid (by unfold chkE; rw [if_neg (by simp only; omega)])
    go_enter Try.func56, Try.ntmps56
    go_wp2
    go_ret
    exact ⟨ret_i HE.out.symm, (Below.refl _ _).alloc (Nat.le_refl _) _⟩
  by_cases h2 : u < n
  · by_cases h3 : v < 0
    · have HE : Hid (chkE n (u, v, x) = 4) := Lib.hid (by unfold chkE; rw [if_neg (by simp only; omega)])
      go_enter Try.func56, Try.ntmps56
      go_wp2
      go_ret
      exact ⟨ret_i HE.out.symm, (Below.refl _ _).alloc (Nat.le_refl _) _⟩
    by_cases h4 : v < n
    · by_cases h5 : x < 0
      · have HE : Hid (chkE n (u, v, x) = 5) := Lib.hid (by unfold chkE; rw [if_pos (by simp only; omega), if_neg (by simp only; omega)])
        go_enter Try.func56, Try.ntmps56
        go_wp2
        go_ret
        exact ⟨ret_i HE.out.symm, (Below.refl _ _).alloc (Nat.le_refl _) _⟩
      by_cases h6 : x ≤ 2147483648
      · have HE : Hid (chkE n (u, v, x) = 0) := Lib.hid (by unfold chkE; rw [if_pos (by simp only; omega), if_pos (by simp only; omega)])
        go_enter Try.func56, Try.ntmps56
        go_wp2
        go_ret
        exact ⟨ret_i HE.out.symm, (Below.refl _ _).alloc (Nat.le_refl _) _⟩
      · have HE : Hid (chkE n (u, v, x) = 5) := Lib.hid (by unfold chkE; rw [if_pos (by simp only; omega), if_neg (by simp only; omega)])
        go_enter Try.func56, Try.ntmps56
        go_wp2
        go_ret
        exact ⟨ret_i HE.out.symm, (Below.refl _ _).alloc (Nat.le_refl _) _⟩
    · have HE : Hid (chkE n (u, v, x) = 4) := Lib.hid (by unfold chkE; rw [if_neg (by simp only; omega)])
      go_enter Try.func56, Try.ntmps56
      go_wp2
      go_ret
      exact ⟨ret_i HE.out.symm, (Below.refl _ _).alloc (Nat.le_refl _) _⟩
  · have HE : Hid (chkE n (u, v, x) = 4) := Lib.hid (by unfold chkE; rw [if_neg (by simp only; omega)])
    go_enter Try.func56, Try.ntmps56
    go_wp2
    go_ret
    exact ⟨ret_i HE.out.symm, (Below.refl _ _).alloc (Nat.le_refl _) _⟩
theorem refNormal_any (e : Ed) (w : World) :
    Calls Try.prog 58 #[encE e] w fun r w' => r = .returned (encE (normE e)) ∧ Below w.heap.size w w' := by
  obtain ⟨u, v, x⟩ := e
  unfold encE
  by_cases h : v < u
  · have HE : Hid ((v, u, x) = normE (u, v, x)) := Lib.hid (by unfold normE; rw [if_pos h])
    go_enter Try.func58, Try.ntmps58
    go_wp2
    refine bodyPost_ret (v := .agg #[.int .i64 v, .int .i64 u, .int .i64 x]) (by simp [results, Try.results58, go_sem]) rfl ⟨agg_e HE.out, ?_⟩
    exact below_two
  · have HE : Hid ((u, v, x) = normE (u, v, x)) := Lib.hid (by unfold normE; rw [if_neg h])
    go_enter Try.func58, Try.ntmps58
    go_wp2
    refine bodyPost_ret (v := .agg #[.int .i64 u, .int .i64 v, .int .i64 x]) (by simp [results, Try.results58, go_sem]) rfl ⟨agg_e HE.out, ?_⟩
    exact below_two
theorem agg_iiE {a b c d : Int} (h1 : a = b) (h2 : c = d) : Ending.returned (.agg #[.int .i64 a, .int .i64 c]) = .returned (.agg #[.int .i64 b, .int .i64 d]) := by rw [h1, h2]
theorem refChecks_any (n : Int) (a : Option Addr) (c : Nat) (l : List Ed) (hl : l.length ≤ 1048576) (w : World) (hR : ReadsE w.heap.size w a l) :
    Calls Try.prog 40 #[.int .i64 n, .slice a l.length c] w fun e w' => e = .returned (.agg #[.int .i64 (chkL n l 0).1, .int .i64 (chkL n l 0).2]) ∧ Below w.heap.size w w' := by
  have HR := Lib.hid hR
  have H2 : Hid (TwoAt w.heap.size (w.alloc (.cells #[.int .i64 0, .int .i64 0] 91)) (.int .i64 0) (.int .i64 0)) := Lib.hid (TwoAt.new _ _ _ _)
  have HB0 : Hid (Below w.heap.size w (w.alloc (.cells #[.int .i64 0, .int .i64 0] 91))) := Lib.hid ((Below.refl _ _).alloc (Nat.le_refl _) _)
  clear hR
  go_enter Try.func40, Try.ntmps40
  go_wp2
  generalize w.alloc (.cells #[.int .i64 0, .int .i64 0] 91) = w0 at *
  go_loopw [5] (fun i wr => ∃ k : Nat, i = .int .i64 k ∧ Hid (ChkRel n w l k wr ∧ TwoAt w.heap.size wr (.int .i64 0) (.int .i64 0))) (fun i _ => l.length - (intOf i).toNat)
  case atStart => exact ⟨0, rfl, Lib.hid ⟨⟨Nat.zero_le _, HB0.out, fun j _ h => by omega⟩, H2.out⟩⟩
  case round =>
    obtain ⟨k, rfl, HK⟩ := hrel
    clear H2 HB0
    have i0 : (0 : Int) ≤ (k : Int) := by omega
    by_cases hlt : k < l.length
    · have i1 : (k : Int) < (l.length : Int) := by omega
      obtain ⟨u, v, x, he⟩ : ∃ u v x, l[k] = (u, v, x) := ⟨_, _, _, rfl⟩
      obtain ⟨b, off, rfl, hbw, hbr, c0, c1, c2⟩ := HR.out.cells hlt HK.out.1.2.1 he
      have HC := Lib.hid (refCheck_any n (u, v, x) wr)
      unfold encE at HC
      have HE := Lib.hid he
      clear he
      by_cases h0 : chkE n (u, v, x) = 0
      · have H0 := Lib.hid h0
        rw [h0] at HC
        clear h0
        go_wp2_with (first | (go_at_call 56; refine HC.out.mono ?_; rintro e w1 ⟨rfl, hb⟩; have H1 := Lib.hid hb; clear hb))
        go_roundw
        case rel => exact ⟨k + 1, by go_num, Lib.hid ⟨HK.out.1.next hlt (by rw [HE.out]; exact H0.out) (HK.out.1.2.1.trans (H1.out.mono HK.out.1.2.1.size)), HK.out.2.on H1.out HK.out.2.lt⟩⟩
        case measure => (simp [intOf]; omega)
      · have HX : Hid (chkL n l 0 = (chkE n (u, v, x), (k : Int))) := Lib.hid (by
          rw [chk_hit n l 0 k hlt (by rw [HE.out]; exact h0) HK.out.1.2.2, HE.out, Nat.zero_add])
        have t : (chkE n (u, v, x) != 0) = true := by simpa using h0
        clear h0
        generalize chkE n (u, v, x) = r at *
        go_wp2_with fail
        refine HC.out.mono ?_
        rintro e w1 ⟨rfl, hb⟩
        have hA := (HK.out.2.on hb HK.out.2.lt)
        obtain ⟨d0, d1, g0, g1⟩ := hA
        have H1 := Lib.hid hb
        clear hb
        go_wp2
        refine bodyPost_ret (v := .agg #[.int .i64 r, .int .i64 k]) (by simp [results, Try.results40, go_sem, d0, d1]) rfl ⟨agg_iiE (by rw [HX.out]) (by rw [HX.out]), ?_⟩
        exact ((HK.out.1.2.1.trans (H1.out.mono HK.out.1.2.1.size)).setCell (Nat.le_refl _) _).setCell (Nat.le_refl _) _
    · have hk : k = l.length := by have := HK.out.1.1; omega
      subst hk
      have HX : Hid (chkL n l 0 = (0, 0)) := Lib.hid (chk_miss n l 0 fun j hj => HK.out.1.2.2 j hj hj)
      obtain ⟨d0, d1, g0, g1⟩ := HK.out.2
      go_wp2
      refine bodyPost_ret (v := .agg #[.int .i64 0, .int .i64 0]) (by simp [results, Try.results40, go_sem, d0, d1]) rfl ⟨agg_iiE (by rw [HX.out]) (by rw [HX.out]), ?_⟩
      exact (HK.out.1.2.1.setCell (Nat.le_refl _) _).setCell (Nat.le_refl _) _
end Go.Proofs.Ytflnmkgpmjefhaa
/- The document's Total, Same, Cmp. -/
namespace Go.Proofs.Ytflnmkgpmjefhaa
open Go.RowKit Go.ChangeShapes EdPure NumPure
theorem reads_of {w : World} {a : Option Addr} {l : List Int} (h : ReadsL (encInt .i64) w.heap.size w a l) : Reads w.heap.size w a l := by
  rcases h with h | ⟨b, off, h1, h2, h3⟩
  · exact Or.inl h
  · refine Or.inr ⟨b, off, h1, h2, fun i hi => ?_⟩
    rw [h3 i hi]
    unfold encInt
    simp [List.getD_eq_getElem?_getD, List.getElem?_eq_getElem hi]
theorem wts_rng {l : List Ed} (h : InL l) : Rng (wts l) := by
  intro i hi
  rw [wts_len] at hi
  rw [wts_at hi]
  exact (h.at hi).2.2
theorem wts_take {l : List Ed} {k : Nat} (hk : k < l.length) : wts (l.take (k + 1)) = wts (l.take k) ++ [l[k].2.2] := by
  rw [List.take_succ_eq_append_getElem hk]; unfold wts; rw [List.map_append]; rfl
theorem info_int64 : ∃ i, (Try.prog.info? 2) = some i ∧ i.zero = some (.int .i64 0) ∧ i.size = 1 ∧ i.bytes = 8 := info_of (by kernel_rfl)
def RTotRel (w0 : World) (l : List Ed) (k : Nat) (v : Value) (wr : World) : Prop := k ≤ l.length ∧ GrowRel (encInt .i64) 2 w0 (wts (l.take k)) v wr
@[go_sem] theorem eq_edge (a b c a' b' c' : Int) (w : World) : (Op.equalIn 10000 27 (.agg #[.int .i64 a, .int .i64 b, .int .i64 c]) (.agg #[.int .i64 a', .int .i64 b', .int .i64 c'])).run Try.prog w = .ok (a == a' && (b == b' && c == c')) w := by
  have u3 := Try.underlying3
  have a3 := Try.isAgg3
  have z3 := Try.sizeOf3
  have u2 := Try.underlying2
  have a2 := Try.isAgg2
  have z2 := Try.sizeOf2
  have hS : Try.prog.underlying 27 = some (.struct (Try.prog.fieldsOf 27)) := by kernel_rfl
  have hp : Try.prog.stoodInHeld 27 = false := by kernel_rfl
  rw [show (10000 : Nat) = 9999 + 1 from rfl, run_equalIn_agg w 9999 27 _ _ hS hp]
  simp only [Program.fieldsOf, Try.underlying27]
  go_simp
  by_cases h1 : a = a' <;> by_cases h2 : b = b' <;> by_cases h3 : c = c' <;> simp [h1, h2, h3]
def SameRel (w : World) (l m : List Ed) (k : Nat) (wr : World) : Prop := k ≤ l.length ∧ Below w.heap.size w wr ∧ ∀ j (h1 : j < l.length) (h2 : j < m.length), j < k → l[j] = m[j]
theorem same_any (a b : Option Addr) (c d : Nat) (l m : List Ed) (hl : l.length ≤ 1048576) (_hm : m.length ≤ 1048576) (w : World) (hR : ReadsE w.heap.size w a l) (hS : ReadsE w.heap.size w b m) :
    Calls Try.prog 14 #[.slice a l.length c, .slice b m.length d] w fun e w' => e = .returned (.bool (decide (l = m))) ∧ Below w.heap.size w w' := by
  have HR := Lib.hid hR
  have HS := Lib.hid hS
  clear hR hS
  by_cases hlen : l.length = m.length
  · have HL := Lib.hid hlen
    rw [← hlen]
    clear hlen
    go_enter Try.func14, Try.ntmps14
    go_wp2
    go_loopw [5] (fun i wr => ∃ k : Nat, i = .int .i64 k ∧ Hid (SameRel w l m k wr)) (fun i _ => l.length - (intOf i).toNat)
    case atStart => exact ⟨0, rfl, Lib.hid ⟨Nat.zero_le _, Below.refl _ _, fun j _ _ h => by omega⟩⟩
    case round =>
      obtain ⟨k, rfl, HK⟩ := hrel
      have i0 : (0 : Int) ≤ (k : Int) := by omega
      by_cases hlt : k < l.length
      · have i1 : (k : Int) < (l.length : Int) := by omega
        have hlt2 : k < m.length := by have := HL.out; omega
        obtain ⟨u, v, x, he⟩ : ∃ u v x, l[k] = (u, v, x) := ⟨_, _, _, rfl⟩
        obtain ⟨u', v', x', he'⟩ : ∃ u v x, m[k] = (u, v, x) := ⟨_, _, _, rfl⟩
        obtain ⟨p, off, rfl, hbw, hbr, c0, c1, c2⟩ := HR.out.cells hlt HK.out.2.1 he
        obtain ⟨p', off', rfl, hbw', hbr', d0, d1, d2⟩ := HS.out.cells hlt2 HK.out.2.1 he'
        have HE := Lib.hid (And.intro he he')
        clear he he'
        by_cases hq : (u, v, x) = (u', v', x')
        · simp only [Prod.mk.injEq] at hq
          obtain ⟨rfl, rfl, rfl⟩ := hq
          go_wp2
          go_quiet (fail)
          go_wp2
          go_roundw
          case rel => exact ⟨k + 1, by go_num, Lib.hid ⟨hlt, below_drewN HK.out.2.1 _, fun j h1 h2 hjk => by
            by_cases e : j = k
            · subst e; rw [HE.out.1, HE.out.2]
            · exact HK.out.2.2 j h1 h2 (by omega)⟩⟩
          case measure => (simp [intOf]; omega)
        · have HX : Hid (decide (l = m) = false) := Lib.hid (decide_eq_false fun e => hq (by rw [← HE.out.1, ← HE.out.2]; simp [e]))
          by_cases e1 : u = u'
          · subst e1
            by_cases e2 : v = v'
            · subst e2
              have t : (x == x') = false := by
                have : ¬ x = x' := fun e => hq (by rw [e])
                simpa using this
              clear hq
              go_wp2
              go_quiet (fail)
              go_wp2
              go_ret
              exact ⟨bool_ret HX.out.symm, below_drewN HK.out.2.1 _⟩
            · have t : (v == v') = false := by simpa using e2
              clear hq e2
              go_wp2
              go_quiet (fail)
              go_wp2
              go_ret
              exact ⟨bool_ret HX.out.symm, below_drewN HK.out.2.1 _⟩
          · have t : (u == u') = false := by simpa using e1
            clear hq e1
            go_wp2
            go_quiet (fail)
            go_wp2
            go_ret
            exact ⟨bool_ret HX.out.symm, below_drewN HK.out.2.1 _⟩
      · have hk : k = l.length := by have := HK.out.1; omega
        subst hk
        have HX : Hid (decide (l = m) = true) := Lib.hid (decide_eq_true (List.ext_getElem HL.out fun j h1 h2 => HK.out.2.2 j h1 h2 h1))
        go_wp2
        go_ret
        exact ⟨bool_ret HX.out.symm, HK.out.2.1⟩
  · have HX : Hid (decide (l = m) = false) := Lib.hid (decide_eq_false fun e => hlen (by rw [e]))
    have t : ((l.length : Int) != (m.length : Int)) = true := by simp; omega
    clear hlen
    go_enter Try.func14, Try.ntmps14
    go_wp2
    go_ret
    exact ⟨bool_ret HX.out.symm, Below.refl _ _⟩
end Go.Proofs.Ytflnmkgpmjefhaa
/- The document's Weight of a graph. -/
namespace Go.Proofs.Ytflnmkgpmjefhaa
open Go.RowKit Go.ChangeShapes EdPure NtPure NumPure
theorem wOf_hit {M : List Ed} {p q : Int} : ∀ {k : Nat} (hk : k < M.length), isAt p q M[k] → (∀ j (hj : j < M.length), j < k → ¬ isAt p q M[j]) → wOf M p q = M[k].2.2 := by
  induction M with
  | nil => intro k hk; simp at hk
  | cons x r ih =>
    intro k hk h1 h2
    cases k with
    | zero => simp only [wOf, List.getElem_cons_zero]; exact if_pos h1
    | succ k =>
      have h0 : ¬ isAt p q x := h2 0 (by simp) (by omega)
      simp only [wOf]
      rw [if_neg h0, ih (by simpa using hk) h1 (fun j hj hjk => h2 (j + 1) (by simpa using hj) (by omega))]
      rfl
theorem wOf_miss {M : List Ed} {p q : Int} (h : ∀ j (hj : j < M.length), ¬ isAt p q M[j]) : wOf M p q = 0 := by
  induction M with
  | nil => rfl
  | cons x r ih =>
    have h0 : ¬ isAt p q x := h 0 (by simp)
    simp only [wOf]
    rw [if_neg h0]
    exact ih fun j hj => h (j + 1) (by simpa using hj)
/-- A graph of the document's, as a value and as it lies in a variable. -/
def RnAt (N : Nat) (n : Int) (a : Option Addr) (c : Nat) (M : List Ed) (w : World) : Prop := TwoAt N w (.int .i64 n) (.slice a M.length c) ∧ ReadsE w.heap.size w a M
theorem RnAt.keep {N : Nat} {n : Int} {a : Option Addr} {c : Nat} {M : List Ed} {w w' : World} (h : RnAt N n a c M w) (hb : Below w.heap.size w w') : RnAt N n a c M w' := ⟨h.1.on hb h.1.lt, h.2.over hb (Nat.le_refl _)⟩
theorem RnAt.box {n : Int} {a : Option Addr} {c : Nat} {M : List Ed} {w : World} (h : ReadsE w.heap.size w a M) : RnAt w.heap.size n a c M (w.alloc (.cells #[.int .i64 n, .slice a M.length c] 42)) :=
  ⟨TwoAt.new _ _ _ _, h.over ((Below.refl _ _).alloc (Nat.le_refl _) _) (Nat.le_refl _)⟩
def noneTo (M : List Ed) (p q : Int) (k : Nat) : Prop := k ≤ M.length ∧ ∀ j (hj : j < M.length), j < k → ¬ isAt p q M[j]
theorem noneTo.next {M : List Ed} {p q : Int} {k : Nat} (h : noneTo M p q k) (hk : k < M.length) (h0 : ¬ isAt p q M[k]) : noneTo M p q (k + 1) :=
  ⟨hk, fun j hj hjk => by
    by_cases e : j = k
    · subst e; exact h0
    · exact h.2 j hj (by omega)⟩
end Go.Proofs.Ytflnmkgpmjefhaa
