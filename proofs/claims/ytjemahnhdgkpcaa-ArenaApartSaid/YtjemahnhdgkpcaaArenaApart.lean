/- Cells that are given have unlike numbers, and keep what is in them; no more are given than there is room for; of nil nothing is given. Conditions: none: every slice, every number (of more than a hundred numbers the law asks only that the program gives cells at all). -/
import Derived.Test.YtjemahnhdgkpcaaArenaAwake
import Derived.Test.YtjemahnhdgkpcaaOpenI
import Derived.Test.YtjemahnhdgkpcaaChecked
import Derived.Test.YtjemahnhdgkpcaaRows
import Derived.OpenShut
import Derived.ChangeOld
import Derived.Below
namespace Go.Proofs.Ytjemahnhdgkpcaa.arenaApart
open Go.ChangeShapes Go.WideShapes Go.ChangeAt Go.RowKit ArenaPure
/-- What was given so far. -/
def filled (l : List Int) (k : Nat) : St := ⟨l.take k, List.replicate k true, []⟩
theorem filled_live (l : List Int) (k : Nat) : liveN (filled l k) = k := by
  unfold liveN filled
  simp
theorem filled_zero (l : List Int) : filled l 0 = emptyS := rfl
theorem filled_num {l : List Int} {k N : Nat} (h : k < N) : giveN N (filled l k) = (k : Int) := by
  unfold giveN
  rw [filled_live, if_neg (by omega)]
  unfold firstN filled
  simp
theorem filled_ok {l : List Int} {k N : Nat} (h : k < N) : giveB N (filled l k) = true := by
  unfold giveB
  rw [filled_live, decide_eq_false (by omega)]
  rfl
theorem filled_full (l : List Int) (N : Nat) : giveB N (filled l N) = false := by
  unfold giveB
  rw [filled_live, decide_eq_true rfl]
  rfl
theorem filled_next {l : List Int} {k N : Nat} (h : k < N) (hk : k < l.length) : giveS N (filled l k) l[k] = filled l (k + 1) := by
  unfold giveS
  rw [filled_live, if_neg (by omega)]
  unfold putS filled
  simp only [St.mk.injEq, and_true]
  exact ⟨(List.take_append_getElem hk), by rw [List.replicate_succ']⟩
theorem filled_has {l : List Int} {k i : Nat} (h : i < k) : hasB (filled l k) (i : Int) = true := by
  unfold hasB filled
  simp [h]
theorem filled_at {l : List Int} {i : Nat} (h : i < l.length) : atV (filled l l.length) (i : Int) = l[i] := by
  unfold atV
  rw [filled_has h, if_pos rfl]
  unfold filled
  simp [List.getD_eq_getElem?_getD, List.getElem?_eq_getElem h]
def numsTo (k : Nat) : List Int := (List.range k).map fun j : Nat => (j : Int)
theorem nums_len (k : Nat) : (numsTo k).length = k := by unfold numsTo; simp
theorem nums_next (k : Nat) : numsTo (k + 1) = numsTo k ++ [(k : Int)] := by unfold numsTo; rw [List.range_succ, List.map_append]; rfl
theorem nums_get {k j : Nat} (h : j < k) : (numsTo k)[j]? = some (j : Int) := by unfold numsTo; rw [List.getElem?_map, List.getElem?_range h]; rfl
theorem nums_at {k j : Nat} (h : j < (numsTo k).length) : (numsTo k)[j] = (j : Int) := by
  have := nums_get (k := k) (j := j) (by rwa [nums_len] at h)
  rw [List.getElem?_eq_getElem h] at this
  exact Option.some.inj this
/-- The arena, and the list of the numbers that were given, beside it. -/
def ApartAt (w : World) (b N : Nat) (S : St) (v : Value) (ks : List Int) (W : World) : Prop :=
  Below w.heap.size w W ∧ w.heap.size ≤ b ∧ W.ownsRow w.heap.size 3 1 v ks.length (ks.map encZ) ∧ ∃ O, ArAt O b W N S ∧ ∀ k, v.ownBlock = some k → ¬ O k
section
variable {w W W' : World} {b N : Nat} {S S' : St} {v v' : Value} {ks : List Int}
theorem ApartAt.turn {O O' : Nat → Prop} (h : ApartAt w b N S v ks W) (ha : ArAt O b W N S) (hd : ∀ k, v.ownBlock = some k → ¬ O k) (ht : Turn O W W') (ho : ∀ k, O' k → O k ∨ W.heap.size ≤ k) (ha' : ArAt O' b W' N S') : ApartAt w b N S' v ks W' := by
  obtain ⟨h1, h2, h3, -⟩ := h
  have hl := h3.lt
  refine ⟨h1.trans (ht.below h1.size (fun k e => Nat.le_trans h2 (ha.lt k e).1)), h2, owns_same h3 (fun k e => ht.2.2.2.2 k (hl k e).2 (hd k e)), O', ha', fun k e e2 => ?_⟩
  rcases ho k e2 with e3 | e3
  · exact hd k e e3
  · have := hl k e; omega
theorem ApartAt.keep (h : ApartAt w b N S v ks W) (hb : Below W.heap.size W W') : ApartAt w b N S v ks W' := by
  obtain ⟨O, ha, hd⟩ := h.2.2.2
  exact h.turn ha hd (Turn.ofBelow hb) (fun _ e => Or.inl e) (ha.keep hb)
theorem ApartAt.more {o : Obj} {x : Int} (h : ApartAt w b N S v ks W) (hown : W'.ownsRow w.heap.size 3 1 v' (ks.length + 1) (ks.map encZ ++ [encZ x])) (hg : (W.alloc o).grownBy W' v.ownBlock) (hat : v'.ownBlock = v.ownBlock ∨ v'.ownBlock = some (W.alloc o).heap.size) : ApartAt w b N S v' (ks ++ [x]) W' := by
  have hk := h.keep ((Below.refl _ W).alloc (Nat.le_refl _) o)
  obtain ⟨h1, h2, h3, O, ha, hd⟩ := hk
  have hl := h3.lt
  refine ⟨h1.grown hg h1.size (fun k e => (hl k e).1), h2, by rw [List.length_append, List.map_append]; exact hown, O, ha.past (Turn.grown hg (O := fun k => v.ownBlock = some k) (fun k e => e)) (fun k e e2 => hd k e2 e), fun k e e2 => ?_⟩
  rcases hat with e3 | e3
  · rw [e3] at e; exact hd k e e2
  · rw [e3] at e
    have := Option.some.inj e
    have := ha.lt k e2
    omega
theorem ApartAt.reads (h : ApartAt w b N S v ks W) : ∃ q c, v = .slice q ks.length c ∧ ReadsL encZ W.heap.size W q ks := by
  obtain ⟨q, c, e, hr, -⟩ := owns_readsL rfl h.2.2.1
  exact ⟨q, c, e, hr⟩
end
theorem apart_start {w w1 : World} {N : Nat} {O : Nat → Prop} (hb : Below w.heap.size w w1) (ha : ArAt O w.heap.size w1 N emptyS) (l : List Int) : ApartAt w w.heap.size N (filled l 0) (.slice none 0 0) (numsTo 0) w1 :=
  ⟨hb, Nat.le_refl _, World.ownsRow_nil _ _ _ _, O, ha, fun k e => by simp [Value.ownBlock] at e⟩
theorem give_apart (w : World) (b N : Nat) (S : St) (v : Value) (ks : List Int) (x : Int) (W : World) (h : ApartAt w b N S v ks W) :
    Calls Try.prog 8 #[.pointer (some ⟨b, 0, none⟩), .int .i64 x] W fun e W' => e = .returned (.tuple #[.int .i64 (giveN N S), .bool (giveB N S)]) ∧ ApartAt w b N (giveS N S x) v ks W' := by
  obtain ⟨O, ha, hd⟩ := h.2.2.2
  refine (give_any O b N S x W ha).mono ?_
  rintro e W' ⟨rfl, ht, O', ho, ha'⟩
  exact ⟨rfl, h.turn ha hd ht ho ha'⟩
theorem at_apart (w : World) (b N : Nat) (S : St) (v : Value) (ks : List Int) (n : Int) (W : World) (h : ApartAt w b N S v ks W) :
    Calls Try.prog 14 #[.pointer (some ⟨b, 0, none⟩), .int .i64 n] W fun e W' => e = .returned (.tuple #[.int .i64 (atV S n), .bool (hasB S n)]) ∧ W = W' := by
  obtain ⟨O, ha, hd⟩ := h.2.2.2
  exact at_any O b N S n W ha
theorem room_len {l : List Int} (h : l.length ≤ 100) : roomN (l.length : Int) = l.length := by unfold roomN; omega
set_option maxRecDepth 100000 in
set_option maxHeartbeats 8000000 in
theorem walk_list (a : Option Addr) (cap : Nat) (l : List Int) (n : Int) (w : World) (hl : ReadsL encZ w.heap.size w a l) (hm : l.length ≤ maxLen) :
    Calls Try.prog 4 #[.slice a l.length cap, .int .i64 n] w fun e w' => e = .returned (.bool true) ∧ Below w.heap.size w w' := by
  have HL := Lib.hid hl
  have hm : l.length ≤ 9223372036854775807 := by unfold maxLen at hm; omega
  clear hl
  by_cases h100 : 100 < l.length
  · go_enter Try.func4, Try.ntmps4
    go_wp2_with (first | (go_at_call 5; refine (awake_any _).mono ?_; rintro e w1 ⟨rfl, hb1⟩; have HB := Lib.hid hb1; clear hb1))
    go_ret
    exact ⟨rfl, HB.out⟩
  have hlen : l.length ≤ 100 := by omega
  clear h100 hm
  obtain ⟨i, hi1, hi2, hi3, hi4⟩ := info_int
  go_enter Try.func4, Try.ntmps4
  go_wp2_with fail
  refine (new_any (l.length : Int) w).mono ?_
  rintro e w1 ⟨rfl, hb1, -, ha1⟩
  rw [room_len hlen] at ha1
  have HP := Lib.hid (apart_start hb1 ha1 l)
  clear hb1 ha1
  generalize hB : w.heap.size = b at *
  have HBw := Lib.hid hB
  clear hB
  go_wp2_with fail
  go_loopw [8, 7] (fun i s wr => ∃ (k : Nat) (v : Value), i = .int .i64 k ∧ v = s ∧ k ≤ l.length ∧ Hid (ApartAt w b l.length (filled l k) v (numsTo k) wr)) (fun i _ _ => l.length - (intOf i).toNat)
  case atStart => exact ⟨0, _, rfl, rfl, Nat.zero_le _, HP⟩
  case round =>
    obtain ⟨k, v, rfl, rfl, hk, HK⟩ := hrel
    clear HP
    have i0 : (0 : Int) ≤ (k : Int) := by omega
    by_cases hlt : k < l.length
    · have i1 : (k : Int) < (l.length : Int) := by omega
      obtain ⟨bl, off, rfl, hbN, d0⟩ := HL.out.at hlt
      have hsz := HK.out.1.size
      have d1 : wr.cell? ⟨bl, off + k, none⟩ = some (encZ l[k]) := (HK.out.1.cell (p := ⟨bl, off + k, none⟩) (by rw [HBw.out]; exact hbN)).trans d0
      unfold encZ at d1
      have HN1 := Lib.hid (filled_num (l := l) hlt)
      have HN2 := Lib.hid (filled_ok (l := l) hlt)
      have HN3 := Lib.hid (filled_next (l := l) hlt hlt)
      clear d0
      go_wp2_with fail
      refine (give_apart w b l.length (filled l k) v (numsTo k) l[k] wr HK.out).mono ?_
      rintro e w2 ⟨rfl, h2⟩
      rw [HN1.out, HN2.out]
      rw [HN3.out] at h2
      have HK2 := Lib.hid h2
      obtain ⟨q, c, rfl, hr⟩ := h2.reads
      have HR := Lib.hid hr
      have hnl := nums_len k
      rw [hnl] at HK2 ⊢
      clear h2 hr HK d1 hsz HN1 HN2 HN3 wr
      go_wp2_with fail
      go_loopw [11] (fun i wr => ∃ j : Nat, i = .int .i64 j ∧ j ≤ k ∧ wr = w2) (fun i _ => k - (intOf i).toNat)
      case atStart => exact ⟨0, rfl, Nat.zero_le _, rfl⟩
      case round =>
        obtain ⟨j, rfl, hj, rfl⟩ := hrel
        have j0 : (0 : Int) ≤ (j : Int) := by omega
        by_cases hjt : j < k
        · have j1 : (j : Int) < (k : Int) := by omega
          obtain ⟨bl2, off2, rfl, hb2, e0⟩ := HR.out.at (show j < (numsTo k).length by omega)
          rw [nums_at] at e0
          unfold encZ at e0
          have t : ((j : Int) == (k : Int)) = false := by
            have : ¬ (j : Int) = (k : Int) := by omega
            simpa using this
          go_wp2
          go_roundw
          case rel => exact ⟨j + 1, by go_num, by omega, by first | rfl | trivial⟩
          case measure => (simp [intOf] <;> omega)
        · have j1 : ¬ (j : Int) < (k : Int) := by omega
          have HN := Lib.hid (nums_next k)
          have hbw := HK2.out.1.size
          have hkl : k ≤ 100 := by omega
          go_wp2_with (first
            | (at_builtin; refine wpList_append_own_at _ rfl _ _ 36 rfl w.heap.size 3 i (.int .i64 0) 1 8 Try.underlying36 hi1 hi2 hi3 hi4 rfl (by decide) (.slice q k c) (numsTo k).length ((numsTo k).map encZ) rfl (HK2.out.2.2.1.alloc _) ⟨wr.heap.size, 0, none⟩ 1 1 [.int .i64 (k : Int)] rfl rfl one_news (by intro u hu; simp at hu; subst hu; rfl) (by unfold maxLen; omega) (by omega) (by simp; omega) ?_; intro v' w6 hown6 hg6 _ hat6; have HK6 := Lib.hid (HK2.out.more (x := (k : Int)) hown6 hg6 hat6); rw [← HN.out] at HK6; clear hown6 hg6 hat6)
            | go_in)
          go_roundw
          case rel => exact ⟨k + 1, _, by go_num, rfl, by omega, HK6⟩
          case measure => (simp [intOf] <;> omega)
    · have hge : ¬ (k : Int) < (l.length : Int) := by omega
      have hkl : k = l.length := by omega
      obtain ⟨q, c, rfl, hr⟩ := HK.out.reads
      have HR := Lib.hid hr
      have hnl := nums_len k
      rw [hnl] at HK ⊢
      clear hr
      go_wp2_with fail
      go_loopw [12] (fun i wz => ∃ j : Nat, i = .int .i64 j ∧ j ≤ k ∧ wz = wr) (fun i _ => k - (intOf i).toNat)
      case atStart => exact ⟨0, rfl, Nat.zero_le _, rfl⟩
      case round =>
        obtain ⟨j, rfl, hj, rfl⟩ := hrel
        have j0 : (0 : Int) ≤ (j : Int) := by omega
        by_cases hjt : j < k
        · have j1 : (j : Int) < (k : Int) := by omega
          have j2 : (j : Int) < (l.length : Int) := by omega
          have hjl : j < l.length := by omega
          obtain ⟨bl2, off2, rfl, hb2, e0⟩ := HR.out.at (show j < (numsTo k).length by omega)
          rw [nums_at] at e0
          obtain ⟨bl, off, rfl, hbN, d0⟩ := HL.out.at hjl
          have d1 := (HK.out.1.cell (p := ⟨bl, off + j, none⟩) (by rw [HBw.out]; exact hbN)).trans d0
          have hsz : bl < _ := Nat.lt_of_lt_of_le hbN (by rw [← HBw.out]; exact HK.out.1.size)
          unfold encZ at e0 d1
          have HV : Hid (atV (filled l k) (j : Int) = l[j]) := Lib.hid (by rw [hkl]; exact filled_at hjl)
          have HH : Hid (hasB (filled l k) (j : Int) = true) := Lib.hid (filled_has hjt)
          have t : (l[j] != l[j]) = false := bne_self_eq_false _
          clear d0
          generalize l[j] = x at *
          go_wp2_with (first | (go_at_call 14; refine (at_apart w b _ _ _ _ _ _ HK.out).mono ?_; rintro e w2 ⟨rfl, rfl⟩; rw [HV.out, HH.out]))
          go_roundw
          case rel => exact ⟨j + 1, by go_num, by omega, by first | rfl | trivial⟩
          case measure => (simp [intOf] <;> omega)
        · have j1 : ¬ (j : Int) < (k : Int) := by omega
          have HF : Hid (giveB l.length (filled l k) = false) := Lib.hid (by rw [hkl]; exact filled_full l _)
          clear HL HR hj hjt hkl hge hk
          go_wp2_with fail
          refine (give_apart w b l.length (filled l k) (.slice q k c) (numsTo k) 0 _ HK.out).mono ?_
          rintro e w2 ⟨rfl, h2⟩
          rw [HF.out]
          have HB2 := Lib.hid h2.1
          clear h2 HK
          go_wp2_with (first
            | (go_at_call 8; refine (give_nil _ _).mono ?_; rintro e w3 ⟨rfl, rfl⟩)
            | (go_at_call 10; refine (free_nil _ _).mono ?_; rintro e w3 ⟨rfl, rfl⟩)
            | (go_at_call 14; refine (at_nil _ _).mono ?_; rintro e w3 ⟨rfl, rfl⟩)
            | (go_at_call 12; refine (set_nil _ _ _).mono ?_; rintro e w3 ⟨rfl, rfl⟩)
            | (go_at_call 17; refine (len_nil _).mono ?_; rintro e w3 ⟨rfl, rfl⟩)
            | (go_at_call 18; refine (room_nil _).mono ?_; rintro e w3 ⟨rfl, rfl⟩)
            | (go_at_call 20; refine (live_nil _).mono ?_; rintro e w3 ⟨rfl, rfl⟩)
            | (go_at_call 5; refine (awake_any _).mono ?_; rintro e w3 ⟨rfl, hb3⟩; have HB3 := Lib.hid (HB2.out.trans (hb3.mono HB2.out.size)); clear hb3))
          go_ret
          exact ⟨rfl, HB3.out⟩
theorem own : ownKnob Try.prog.godebug = none := by kernel_rfl
theorem laidOut : laidOutB Try.prog = true := by kernel_rfl
set_option maxRecDepth 100000 in
theorem lifted (os : Os) (started : os.Started) (H : Type) (enc : TypeId × Value → H) :
    ReturnsInHanded {} Try.checked os 4 .any (Rows.arenaApartSpec.pre6 enc Try.prog Try.f4 Rows.arenaApartRow.domain false) (Rows.arenaApartSpec.post enc Try.prog Try.f4 false true false false) := by
  refine returnsInHanded_of_change (C := Try.checked) own started (by kernel_rfl) Try.func4
    (ChangeSpec.witness6 (enc := enc) (C := Try.checked) false ⟨#[], #[.slice none 0 0, .int .i64 0], []⟩ 8 (by kernel_rfl) (by kernel_rfl) (by kernel_rfl) (by kernel_rfl)) ?_
  intro W base args ds gs before hval0 hW hcnd _
  have hval : ∀ (j : Nat) t v, Try.f4.params[j]? = some t → args[j]? = some v → Value.okWide Try.prog W .any base t v := hval0
  have hW' := hW
  obtain ⟨p, q, hA0, hV, rfl, hfz, hnd⟩ := hW
  have hA : DataW.TrodAll enc Try.prog W 0 (fun _ => true) true Try.f4.params.toList args.toList ds p := hA0
  rw [Try.params4] at hA hval
  obtain ⟨v0, vs0, d0, ds0, p0, q0, hargs, rfl, rfl, h0, r0⟩ := trodAll_cons hA
  obtain ⟨v1, vs1, d1, ds1, p1, q1, rfl, rfl, rfl, h1, r1⟩ := trodAll_cons r0
  obtain ⟨rfl, rfl, rfl⟩ := trodAll_nil r1
  obtain rfl : args = #[v0, v1] := by cases args; simp_all
  obtain ⟨rfl, rfl⟩ := trodVars_none hV
  obtain ⟨a0, len0, cap0, rfl⟩ := okWide_slice Try.underlying36 (hval 0 36 v0 rfl rfl)
  have k0 := h0
  have lt0 : ∀ x ∈ p0, x.block < W.heap.size := by obtain ⟨m, hm⟩ := k0; exact DataW.trod_lt m _ _ _ hm
  obtain ⟨l0, hlen0, w0⟩ : ∃ l : List Int, l.length = len0 ∧ ReadsL encZ W.heap.size W a0 l ∧ l.length ≤ maxLen := by
    obtain ⟨fuel, hf⟩ := h0
    exact open_intsL hf
  subst hlen0
  obtain ⟨a1, rfl, rfl, rfl, w1⟩ := open_int Try.underlying3 (hval 1 3 v1 rfl rfl) h1
  clear hA0 hval0
  refine (walk_list a0 cap0 l0 a1 W w0.1 w0.2).mono fun e W' ⟨he, bel⟩ => ?_
  subst he
  exact ⟨_, rfl, _, _, _, [], _, [], hW', trodAll_mk1 (shut_bool Try.underlying4 _), (trodAll_cons_mk (Below.trod laidOut (by kernel_rfl) (of_decide_eq_true (by kernel_rfl)) k0 bel lt0) (trodAll_cons_mk (shut_int Try.underlying3 w1) trodAll_mk0)), rfl, bel.frame _, fun h => by cases h⟩
theorem over : Rows.arenaApartRow.holds Try.pinned (OpenSpec.ofChange Rows.arenaApartSpec) :=
  OpenClaim.holds_of_wide 4 Try.f4 rfl rfl rfl rfl rfl rfl rfl ⟨rfl, rfl, rfl, rfl, rfl⟩ rfl rfl rfl rfl rfl (by kernel_rfl) Try.func4 (by kernel_rfl)
    (of_decide_eq_true (by kernel_rfl)) (by unfold Func.isWrapper; first | (rw [if_pos (by decide +kernel)]; kernel_rfl) | (rw [if_neg (by decide +kernel)]; exact ⟨rfl, rfl⟩))
    (fun os started H enc _ => lifted os started H enc)
/-- The statement. -/
theorem proved : Rows.ArenaApartSaid := over
#print axioms proved
end Go.Proofs.Ytjemahnhdgkpcaa.arenaApart
