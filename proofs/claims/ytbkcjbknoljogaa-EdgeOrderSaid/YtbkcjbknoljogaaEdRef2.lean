/- The document's Total, Same, Cmp. -/
import Derived.Test.YtbkcjbknoljogaaEdRef1
namespace Go.Proofs.Ytbkcjbknoljogaa
open Go.RowKit Go.ChangeShapes EdPure NumPure
theorem reads_of {w : World} {a : Option Addr} {l : List Int} (h : ReadsL (encInt .i64) w.heap.size w a l) : Reads w.heap.size w a l := by
  rcases h with h | ⟨b, off, h1, h2, h3⟩
  · exact Or.inl h
  · refine Or.inr ⟨b, off, h1, h2, fun i hi => ?_⟩
    rw [h3 i hi]
    unfold encInt
    simp [List.getD_eq_getElem?_getD, List.getElem?_eq_getElem hi]
theorem wts_rng {l : List Ed} (h : InL l) : Rng (wts l) := by
  intro i hi
  rw [wts_len] at hi
  rw [wts_at hi]
  exact (h.at hi).2.2
theorem wts_take {l : List Ed} {k : Nat} (hk : k < l.length) : wts (l.take (k + 1)) = wts (l.take k) ++ [l[k].2.2] := by
  rw [List.take_succ_eq_append_getElem hk]; unfold wts; rw [List.map_append]; rfl
theorem info_int64 : ∃ i, (Try.prog.info? 2) = some i ∧ i.zero = some (.int .i64 0) ∧ i.size = 1 ∧ i.bytes = 8 := info_of (by kernel_rfl)
def RTotRel (w0 : World) (l : List Ed) (k : Nat) (v : Value) (wr : World) : Prop := k ≤ l.length ∧ GrowRel (encInt .i64) 2 w0 (wts (l.take k)) v wr
set_option maxHeartbeats 400000 in
theorem refTotal_any (a : Option Addr) (c : Nat) (l : List Ed) (hl : l.length ≤ 1048576) (hI : InL l) (w : World) (hR : ReadsE w.heap.size w a l) :
    Calls Try.prog 18 #[.slice a l.length c] w fun e w' => e = .returned (.agg #[.int .i64 (sumS (wts l)).1, .bool (sumS (wts l)).2]) ∧ Below w.heap.size w w' := by
  have HR := Lib.hid hR
  have HI := Lib.hid hI
  obtain ⟨i0, hi, hz0, hz1, hz2⟩ := info_int64
  have H2 : Hid (TwoAt w.heap.size (w.alloc (.cells #[.int .i64 0, .bool false] 39)) (.int .i64 0) (.bool false)) := Lib.hid (TwoAt.new _ _ _ _)
  have HB0 : Hid (Below w.heap.size w (w.alloc (.cells #[.int .i64 0, .bool false] 39))) := Lib.hid ((Below.refl _ _).alloc (Nat.le_refl _) _)
  clear hR hI
  go_enter Try.func18, Try.ntmps18
  go_wp2
  generalize w.alloc (.cells #[.int .i64 0, .bool false] 39) = w0 at *
  go_loopw [3, 4] (fun s i wr => ∃ k : Nat, i = .int .i64 k ∧ Hid (RTotRel w0 l k s wr)) (fun _ i _ => l.length - (intOf i).toNat)
  case atStart => exact ⟨0, rfl, Lib.hid ⟨Nat.zero_le _, GrowRel.start _ _ _⟩⟩
  case round =>
    obtain ⟨k, rfl, HK⟩ := hrel
    have j0 : (0 : Int) ≤ (k : Int) := by omega
    have HBr : Hid (Below w.heap.size w wr) := Lib.hid (HB0.out.trans (HK.out.2.1.mono HB0.out.size))
    by_cases hlt : k < l.length
    · have j1 : (k : Int) < (l.length : Int) := by omega
      obtain ⟨u, v, x, he⟩ : ∃ u v x, l[k] = (u, v, x) := ⟨_, _, _, rfl⟩
      obtain ⟨b, off, rfl, hbw, hbr, c0, c1, c2⟩ := HR.out.cells hlt HBr.out he
      have HE : Hid (wts (l.take (k + 1)) = wts (l.take k) ++ [x]) := Lib.hid (by rw [wts_take hlt, he])
      have hln : (wts (l.take k)).length ≤ 1048576 := by rw [wts_len, List.length_take]; omega
      have hsz := HK.out.2.1.size
      clear he
      go_wp2_with (first
        | (at_builtin; refine wpList_append_own _ rfl _ _ 62 rfl w0.heap.size 2 i0 (.int .i64 0) 1 8 Try.underlying62 hi hz0 hz1 hz2 rfl (by decide) u3 (wts (l.take k)).length ((wts (l.take k)).map (encInt .i64)) rfl (HK.out.2.2.alloc _) ⟨wr.heap.size, 0, none⟩ 1 1 [.int .i64 x] rfl rfl (one_newsAt rfl) (by intro u hu; simp at hu; subst hu; rfl) (by unfold maxLen; omega) (by omega) (by simp; omega) ?_; intro v' w1 hown hgrow _; have HO := Lib.hid (HK.out.2.step x hown hgrow); clear hown hgrow))
      go_roundw
      case rel => exact ⟨k + 1, by go_num, Lib.hid ⟨hlt, by rw [HE.out]; exact HO.out⟩⟩
      case measure => (simp [intOf]; omega)
    · have hk : k = l.length := by have := HK.out.1; omega
      subst hk
      have HT : Hid (l.take l.length = l) := Lib.hid List.take_length
      have hG := HK.out.2
      rw [HT.out] at hG
      obtain ⟨p, cap, rfl, hp, hcap⟩ := hG.reads
      have HS := Lib.hid (refSum_any p cap (wts l) wr (wts_rng HI.out) (reads_of hp) (by rw [wts_len]; omega))
      have HL : Hid ((wts l).length = l.length) := Lib.hid (wts_len l)
      have hA := H2.out.on hG.1 H2.out.lt
      have HA := Lib.hid hA
      clear hG hA hp
      go_wp2_with fail
      refine HS.out.mono ?_
      rintro e w1 ⟨rfl, hb⟩
      obtain ⟨d0, d1, g0, g1⟩ := HA.out.on hb HA.out.lt
      have HB1 : Hid (Below w.heap.size w w1) := Lib.hid (HBr.out.trans (hb.mono HBr.out.size))
      clear hb
      go_wp2
      refine bodyPost_ret (v := .agg #[.int .i64 (sumS (wts l)).1, .bool (sumS (wts l)).2]) (by simp [results, Try.results18, go_sem, d0, d1]) rfl ⟨rfl, ?_⟩
      exact (HB1.out.setCell (Nat.le_refl _) _).setCell (Nat.le_refl _) _
@[go_sem] theorem eq_edge (a b c a' b' c' : Int) (w : World) : (Op.equalIn 10000 24 (.agg #[.int .i64 a, .int .i64 b, .int .i64 c]) (.agg #[.int .i64 a', .int .i64 b', .int .i64 c'])).run Try.prog w = .ok (a == a' && (b == b' && c == c')) w := by
  have u3 := Try.underlying3
  have a3 := Try.isAgg3
  have z3 := Try.sizeOf3
  have u2 := Try.underlying2
  have a2 := Try.isAgg2
  have z2 := Try.sizeOf2
  have hS : Try.prog.underlying 24 = some (.struct (Try.prog.fieldsOf 24)) := by kernel_rfl
  have hp : Try.prog.stoodInHeld 24 = false := by kernel_rfl
  rw [show (10000 : Nat) = 9999 + 1 from rfl, run_equalIn_agg w 9999 24 _ _ hS hp]
  simp only [Program.fieldsOf, Try.underlying24]
  go_simp
  by_cases h1 : a = a' <;> by_cases h2 : b = b' <;> by_cases h3 : c = c' <;> simp [h1, h2, h3]
def SameRel (w : World) (l m : List Ed) (k : Nat) (wr : World) : Prop := k ≤ l.length ∧ Below w.heap.size w wr ∧ ∀ j (h1 : j < l.length) (h2 : j < m.length), j < k → l[j] = m[j]
theorem same_any (a b : Option Addr) (c d : Nat) (l m : List Ed) (hl : l.length ≤ 1048576) (_hm : m.length ≤ 1048576) (w : World) (hR : ReadsE w.heap.size w a l) (hS : ReadsE w.heap.size w b m) :
    Calls Try.prog 23 #[.slice a l.length c, .slice b m.length d] w fun e w' => e = .returned (.bool (decide (l = m))) ∧ Below w.heap.size w w' := by
  have HR := Lib.hid hR
  have HS := Lib.hid hS
  clear hR hS
  by_cases hlen : l.length = m.length
  · have HL := Lib.hid hlen
    rw [← hlen]
    clear hlen
    go_enter Try.func23, Try.ntmps23
    go_wp2
    go_loopw [5] (fun i wr => ∃ k : Nat, i = .int .i64 k ∧ Hid (SameRel w l m k wr)) (fun i _ => l.length - (intOf i).toNat)
    case atStart => exact ⟨0, rfl, Lib.hid ⟨Nat.zero_le _, Below.refl _ _, fun j _ _ h => by omega⟩⟩
    case round =>
      obtain ⟨k, rfl, HK⟩ := hrel
      have i0 : (0 : Int) ≤ (k : Int) := by omega
      by_cases hlt : k < l.length
      · have i1 : (k : Int) < (l.length : Int) := by omega
        have hlt2 : k < m.length := by have := HL.out; omega
        obtain ⟨u, v, x, he⟩ : ∃ u v x, l[k] = (u, v, x) := ⟨_, _, _, rfl⟩
        obtain ⟨u', v', x', he'⟩ : ∃ u v x, m[k] = (u, v, x) := ⟨_, _, _, rfl⟩
        obtain ⟨p, off, rfl, hbw, hbr, c0, c1, c2⟩ := HR.out.cells hlt HK.out.2.1 he
        obtain ⟨p', off', rfl, hbw', hbr', d0, d1, d2⟩ := HS.out.cells hlt2 HK.out.2.1 he'
        have HE := Lib.hid (And.intro he he')
        clear he he'
        by_cases hq : (u, v, x) = (u', v', x')
        · simp only [Prod.mk.injEq] at hq
          obtain ⟨rfl, rfl, rfl⟩ := hq
          go_wp2
          go_quiet (fail)
          go_wp2
          go_roundw
          case rel => exact ⟨k + 1, by go_num, Lib.hid ⟨hlt, below_drewN HK.out.2.1 _, fun j h1 h2 hjk => by
            by_cases e : j = k
            · subst e; rw [HE.out.1, HE.out.2]
            · exact HK.out.2.2 j h1 h2 (by omega)⟩⟩
          case measure => (simp [intOf]; omega)
        · have HX : Hid (decide (l = m) = false) := Lib.hid (decide_eq_false fun e => hq (by rw [← HE.out.1, ← HE.out.2]; simp [e]))
          by_cases e1 : u = u'
          · subst e1
            by_cases e2 : v = v'
            · subst e2
              have t : (x == x') = false := by
                have : ¬ x = x' := fun e => hq (by rw [e])
                simpa using this
              clear hq
              go_wp2
              go_quiet (fail)
              go_wp2
              go_ret
              exact ⟨bool_ret HX.out.symm, below_drewN HK.out.2.1 _⟩
            · have t : (v == v') = false := by simpa using e2
              clear hq e2
              go_wp2
              go_quiet (fail)
              go_wp2
              go_ret
              exact ⟨bool_ret HX.out.symm, below_drewN HK.out.2.1 _⟩
          · have t : (u == u') = false := by simpa using e1
            clear hq e1
            go_wp2
            go_quiet (fail)
            go_wp2
            go_ret
            exact ⟨bool_ret HX.out.symm, below_drewN HK.out.2.1 _⟩
      · have hk : k = l.length := by have := HK.out.1; omega
        subst hk
        have HX : Hid (decide (l = m) = true) := Lib.hid (decide_eq_true (List.ext_getElem HL.out fun j h1 h2 => HK.out.2.2 j h1 h2 h1))
        go_wp2
        go_ret
        exact ⟨bool_ret HX.out.symm, HK.out.2.1⟩
  · have HX : Hid (decide (l = m) = false) := Lib.hid (decide_eq_false fun e => hlen (by rw [e]))
    have t : ((l.length : Int) != (m.length : Int)) = true := by simp; omega
    clear hlen
    go_enter Try.func23, Try.ntmps23
    go_wp2
    go_ret
    exact ⟨bool_ret HX.out.symm, Below.refl _ _⟩
end Go.Proofs.Ytbkcjbknoljogaa
