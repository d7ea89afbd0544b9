/- The document's own sort of layer 3: each put ahead of the first one that comes behind it. -/
import Derived.Test.YtbebnhadgbkepaaForderSf
import Derived.Test.YtbebnhadgbkepaaForderRef
import Derived.Test.YtbebnhadgbkepaaForderFloats
namespace Go.Proofs.Ytbebnhadgbkepaa
open Go.RowKit FbitPure ForderPure
open Go.Sort hiding Below
theorem ltB_le {x y : Nat} : ltB x y = false ↔ y ≤ x := by unfold ltB; simp
/-- What the first k are sorted to. -/
def InsOk (l : List Nat) (k : Nat) (S : List Nat) : Prop := S.Pairwise (fun x y => pk x ≤ pk y) ∧ S.Perm ((l.take k).map bitsN)
theorem InsOk.len {l S : List Nat} {k : Nat} (h : InsOk l k S) (hk : k ≤ l.length) : S.length = k := by
  rw [h.2.length_eq]; simp; omega
theorem InsOk.step {l S : List Nat} {k A : Nat} (h : InsOk l k S) (hk : k < l.length) (hA : A ≤ S.length) (h1 : ∀ j, j < A → ¬ pk (l.getD k 0) < pk (S.getD j 0)) (h2 : A < S.length → pk (l.getD k 0) < pk (S.getD A 0)) :
    InsOk l (k + 1) (S.take A ++ [bitsN (l.getD k 0)] ++ S.drop A) := by
  obtain ⟨hs, hp⟩ := h
  have hat : ∀ j (hj : j < S.length), S.getD j 0 = S[j] := fun j hj => by simp [List.getD_eq_getElem?_getD, hj]
  refine ⟨?_, ?_⟩
  · rw [List.append_assoc, List.pairwise_append]
    refine ⟨hs.sublist (List.take_sublist _ _), ?_, ?_⟩
    · rw [List.singleton_append, List.pairwise_cons]
      refine ⟨fun y hy => ?_, hs.sublist (List.drop_sublist _ _)⟩
      rw [pk_bits]
      obtain ⟨i, hi, rfl⟩ := List.getElem_of_mem hy
      rw [List.length_drop] at hi
      have h3 := h2 (by omega)
      rw [hat A (by omega)] at h3
      rw [List.getElem_drop]
      by_cases hi0 : i = 0
      · subst hi0; simpa using Nat.le_of_lt h3
      · exact Nat.le_trans (Nat.le_of_lt h3) (List.pairwise_iff_getElem.1 hs A (A + i) (by omega) (by omega) (by omega))
    · intro x hx y hy
      obtain ⟨i, hi, rfl⟩ := List.getElem_of_mem hx
      rw [List.length_take] at hi
      have h3 := h1 i (by omega)
      rw [hat i (by omega)] at h3
      rw [List.getElem_take]
      rcases List.mem_append.1 hy with hy | hy
      · rw [List.mem_singleton.1 hy, pk_bits]; omega
      · obtain ⟨j, hj, rfl⟩ := List.getElem_of_mem hy
        rw [List.length_drop] at hj
        rw [List.getElem_drop]
        exact List.pairwise_iff_getElem.1 hs i (A + j) (by omega) (by omega) (by omega)
  · have e : l.take (k + 1) = l.take k ++ [l.getD k 0] := by
      rw [List.take_add_one, List.getElem?_eq_getElem hk]
      simp [List.getD_eq_getElem?_getD, hk]
    rw [e, List.map_append]
    have p1 : (S.take A ++ [bitsN (l.getD k 0)] ++ S.drop A).Perm (S.take A ++ S.drop A ++ [bitsN (l.getD k 0)]) := by
      rw [List.append_assoc, List.append_assoc]
      exact List.Perm.append_left _ List.perm_append_comm
    rw [List.take_append_drop] at p1
    exact p1.trans (hp.append_right _)
theorem InsOk.done {l S : List Nat} (hw : Wide l) (h : InsOk l l.length S) : S = sf l := by
  obtain ⟨hs, hp⟩ := h
  rw [List.take_length] at hp
  rw [wide_iff] at hw
  have hkeys : (keysOf S).Perm (keysOf l) := by
    have := hp.map pk
    rw [List.map_map] at this
    have e : l.map (pk ∘ bitsN) = keysOf l := List.map_congr_left fun b _ => pk_bits b
    rw [e] at this
    exact this
  have hlen : (keysOf S).length = (keysOf l).length := hkeys.length_eq
  have hd : (keysOf S).toArray = (sk l).toArray := by
    refine sorted_keys ⟨by simpa using hlen, fun i hi => ?_, ?_⟩ fun i j _ hij hj => ?_
    · rw [get_toArray, get_toArray]
      have hi' : (keysOf l).length ≤ i := by simpa using hi
      rw [List.getD_eq_getElem?_getD, List.getD_eq_getElem?_getD, List.getElem?_eq_none (by omega), List.getElem?_eq_none hi']
    · have e1 : ((keysOf S).toArray.extract 0 (keysOf l).toArray.size).toList = keysOf S := by
        rw [Array.toList_extract]
        simp [List.extract, ← hlen]
      have e2 : ((keysOf l).toArray.extract 0 (keysOf l).toArray.size).toList = keysOf l := by
        rw [Array.toList_extract]
        simp [List.extract]
      rw [e1, e2]
      exact hkeys
    · rw [get_toArray, get_toArray, ltB_le]
      have hjS : j < S.length := by simpa [keysOf, ← hlen] using (show j < (keysOf S).length by rw [hlen]; simpa using hj)
      rw [keys_get S hjS, keys_get S (by omega)]
      have := List.pairwise_iff_getElem.1 hs i j (by omega) hjS hij
      simpa [List.getD_eq_getElem?_getD, hjS, show i < S.length by omega] using this
  have hk : keysOf S = sk l := by simpa using congrArg Array.toList hd
  unfold sf
  rw [← hk]
  unfold keysOf
  rw [List.map_map]
  refine ((List.map_congr_left (g := id) fun x hx => ?_).trans (List.map_id _)).symm
  obtain ⟨b, hb, rfl⟩ := List.mem_map.1 (hp.mem_iff.1 hx)
  show unk (pk (bitsN b)) = bitsN b
  rw [pk_bits, unk_pk (hw b hb)]
/-- At the head of a round: the first k are sorted in v. -/
def SortRel (w0 : World) (l : List Nat) (k : Nat) (S : List Nat) (v : Value) (w : World) : Prop := Below w0.heap.size w0 w ∧ w.ownsRow w0.heap.size 22 1 v S.length (S.map encU) ∧ InsOk l k S
/-- The place that is sought: y are not looked at yet. -/
def SeekRel (x : Nat) (S : List Nat) (A y : Nat) : Prop := A ≤ S.length ∧ y ≤ A ∧ (∀ j, y ≤ j → j < A → ¬ pk x < pk (S.getD j 0)) ∧ (A < S.length → pk x < pk (S.getD A 0))
/-- The sorted ones, at p. -/
def SrcRel (w0 : World) (p : Option Addr) (k cp : Nat) (S : List Nat) (w : World) : Prop :=
  Below w0.heap.size w0 w ∧ w.ownsRow w0.heap.size 22 1 (.slice p k cp) k (S.map encU) ∧ ReadsE encU w.heap.size w p S
theorem SrcRel.drewN {w0 w : World} {p : Option Addr} {k cp : Nat} {S : List Nat} (h : SrcRel w0 p k cp S w) (q : Nat) : SrcRel w0 p k cp S (w.drewN q) := ⟨below_drewN h.1 q, h.2.1, h.2.2⟩
theorem InsOk.wide {l S : List Nat} {k : Nat} (hw : Wide l) (h : InsOk l k S) : Wide S := by
  rw [wide_iff] at hw ⊢
  intro x hx
  obtain ⟨b, hb, rfl⟩ := List.mem_map.1 (h.2.mem_iff.1 hx)
  exact bits_le (hw b (List.mem_of_mem_take hb))
theorem SeekRel.yes {x A y : Nat} {S : List Nat} (h : SeekRel x S A (y + 1)) (hy : pk x < pk (S.getD y 0)) : SeekRel x S y y :=
  ⟨by have := h.1; have := h.2.1; omega, Nat.le_refl _, fun j h1 h2 => by omega, fun _ => hy⟩
theorem SeekRel.no {x A y : Nat} {S : List Nat} (h : SeekRel x S A (y + 1)) (hy : ¬ pk x < pk (S.getD y 0)) : SeekRel x S A y := by
  refine ⟨h.1, by have := h.2.1; omega, fun j h1 h2 => ?_, h.2.2.2⟩
  by_cases hj : j = y
  · rw [hj]; exact hy
  · exact h.2.2.1 j (by omega) h2
theorem SeekRel.next {x A y k : Nat} {S : List Nat} {v : Value} (h : SeekRel x S A y) (hy : y < k) (hv : v = .int .i64 ((y : Int) - 1)) :
    (∃ z : Nat, v = .int .i64 z ∧ z < k ∧ Hid (SeekRel x S A (z + 1))) ∨ (v = .int .i64 (-1) ∧ Hid (SeekRel x S A 0)) := by
  subst hv
  cases y with
  | zero => exact Or.inr ⟨rfl, h⟩
  | succ z => exact Or.inl ⟨z, by congr 1; omega, by omega, h⟩
theorem news_take {W : World} {g A : Nat} {S : List Nat} (h : ∀ i, i < S.length → W.cell? ⟨g, i, none⟩ = some (encU (S.getD i 0))) : ∀ j u, ((S.take A).map encU)[j]? = some u → W.cell? ((⟨g, 0, none⟩ : Addr).add j) = some u := by
  intro j u hu
  obtain ⟨hj, rfl⟩ := List.getElem?_eq_some_iff.1 hu
  rw [List.length_map, List.length_take] at hj
  rw [addr_add, Nat.zero_add, h j (by omega)]
  simp [List.getD_eq_getElem?_getD, show j < S.length by omega]
theorem news_drop {W : World} {g A : Nat} {S : List Nat} (h : ∀ i, i < S.length → W.cell? ⟨g, i, none⟩ = some (encU (S.getD i 0))) : ∀ j u, ((S.drop A).map encU)[j]? = some u → W.cell? ((⟨g, A, none⟩ : Addr).add j) = some u := by
  intro j u hu
  obtain ⟨hj, rfl⟩ := List.getElem?_eq_some_iff.1 hu
  rw [List.length_map, List.length_drop] at hj
  rw [addr_add, h (A + j) (by omega)]
  simp [List.getD_eq_getElem?_getD, show A + j < S.length by omega]
theorem one_cells (L : List Nat) : ∀ u ∈ L.map encU, u.oneCell' = true := by
  intro u hu
  obtain ⟨x, _, rfl⟩ := List.mem_map.1 hu
  rfl
theorem owns_drewN {w : World} {B : Nat} {e : TypeId} {size n : Nat} {v : Value} {xs : List Value} (h : w.ownsRow B e size v n xs) (q : Nat) : (w.drewN q).ownsRow B e size v n xs := h
set_option maxHeartbeats 4000000 in
set_option maxRecDepth 100000 in
theorem refSort_any (a : Option Addr) (cap : Nat) (l : List Nat) (w : World) (hr : Wide l) (hl : ReadsE encU w.heap.size w a l) (hlen : l.length ≤ 1000) :
    Calls Try.prog 13 #[.slice a l.length cap] w fun e w' => ∃ p cap', e = .returned (.slice p l.length cap') ∧ Below w.heap.size w w' ∧ ReadsE encU w'.heap.size w' p (sf l) := by
  have HL := Lib.hid hl; have HR := Lib.hid hr
  clear hr hl
  obtain ⟨i0, hi, hz0, hz1, hz2⟩ := info_parts info_u64
  have HS : Hid (SortRel w l 0 [] (.slice none 0 0) w) := ⟨Below.refl _ _, World.ownsRow_nil _ _ _ _, List.Pairwise.nil, List.Perm.refl _⟩
  go_enter Try.func13, Try.ntmps13
  go_wp2
  go_loopw [3, 4] (fun v i wr => ∃ (k : Nat) (S : List Nat), i = .int .i64 k ∧ k ≤ l.length ∧ S.length = k ∧ Hid (SortRel w l k S v wr)) (fun _ i _ => l.length - (intOf i).toNat)
  case atStart => exact ⟨0, [], rfl, Nat.zero_le _, rfl, HS⟩
  case round =>
    obtain ⟨k, S, rfl, hk, hSk, HK⟩ := hrel
    obtain ⟨p, cp, hv, hread, hcap, hnil, hsome⟩ := owns_reads HK.out.2.1
    subst hv
    rw [hSk] at hcap
    have HV : Hid (wr.ownsRow w.heap.size 22 1 (.slice p k cp) k (S.map encU)) := by
      have := HK.out.2.1
      rwa [hSk] at this
    have HB := Lib.hid HK.out.1
    have HI := Lib.hid HK.out.2.2
    have HRD := Lib.hid hread
    have HNIL := Lib.hid hnil
    have HSOME := Lib.hid hsome
    clear HK hread hnil hsome
    have HSK := Lib.hid hSk
    rw [hSk]
    clear hSk
    by_cases hlt : k < l.length
    · go_wp2
      have HSRC : Hid (SrcRel w p k cp S wr) := ⟨HB.out, HV.out, HRD.out⟩
      clear HB HV HRD
      go_loopw [5, 6] (fun s5 s6 wr2 => ∃ A : Nat, s5 = .int .i64 A ∧ A ≤ k ∧ Hid (SrcRel w p k cp S wr2) ∧ ((∃ y : Nat, s6 = .int .i64 y ∧ y < k ∧ Hid (SeekRel (l.getD k 0) S A (y + 1))) ∨ (s6 = .int .i64 (-1) ∧ Hid (SeekRel (l.getD k 0) S A 0)))) (fun _ s6 _ => (intOf s6 + 1).toNat)
      case atStart =>
        refine ⟨k, rfl, Nat.le_refl _, HSRC, ?_⟩
        have hst : SeekRel (l.getD k 0) S k k := ⟨by rw [HSK.out]; exact Nat.le_refl _, Nat.le_refl _, fun j h1 h2 => by omega, fun h => by rw [HSK.out] at h; omega⟩
        by_cases hk0 : k = 0
        · subst hk0; exact Or.inr ⟨rfl, hst⟩
        · refine Or.inl ⟨k - 1, by congr 1; omega, by omega, ?_⟩
          rw [show k - 1 + 1 = k by omega]
          exact hst
      case round =>
        obtain ⟨A, rfl, hA, HW, hcase⟩ := hrel
        obtain ⟨b, off, ha, -, hck⟩ := (HL.out.on HW.out.1).at hlt
        subst ha
        have hrk := HR.out k
        unfold encU at hck
        rcases hcase with ⟨y, rfl, hy, HSE⟩ | ⟨rfl, HSE⟩
        · obtain ⟨b', off', ha', -, hcy⟩ := HW.out.2.2.at (k := y) (by rw [HSK.out]; exact hy)
          subst ha'
          have hry := HI.out.wide HR.out y
          unfold encU at hcy
          have hcmp := refCmp_any (l.getD k 0) (S.getD y 0) hrk hry
          have HY : Hid (pk (l.getD k 0) < pk (S.getD y 0) → SeekRel (l.getD k 0) S y y) := fun h => HSE.out.yes h
          have HN : Hid (¬ pk (l.getD k 0) < pk (S.getD y 0) → SeekRel (l.getD k 0) S A y) := fun h => HSE.out.no h
          have HQ := Lib.hid (cmp_neg (pk (l.getD k 0)) (pk (S.getD y 0)))
          generalize cmpN (pk (l.getD k 0)) (pk (S.getD y 0)) = n at *
          generalize hx : l.getD k 0 = x at *
          generalize hz : S.getD y 0 = z at *
          have HX := Lib.hid hx
          have HC := Lib.hid hcmp
          clear hcmp hx hz
          by_cases hn : n < 0
          · go_wp2
            go_quiet (first | (go_at_call 8; refine Calls.quiet_of_same (flip_same (HC.out _))))
            go_wp2
            go_roundw
            case rel =>
              refine ⟨y, rfl, by omega, HW.out.drewN _, ?_⟩
              exact (HY.out (HQ.out.1 (by omega))).next hy rfl
            case measure => (simp [intOf] <;> omega)
          · go_wp2
            go_quiet (first | (go_at_call 8; refine Calls.quiet_of_same (flip_same (HC.out _))))
            go_wp2
            go_roundw
            case rel =>
              refine ⟨A, rfl, hA, HW.out.drewN _, ?_⟩
              exact (HN.out (fun h => by have := HQ.out.2 h; omega)).next hy rfl
            case measure => (simp [intOf] <;> omega)
        · have HSTEP := Lib.hid (HI.out.step hlt HSE.out.1 (fun j hj => HSE.out.2.2.1 j (Nat.zero_le _) hj) HSE.out.2.2.2)
          have HBITS := Lib.hid (refBits_any (l.getD k 0) hrk)
          have hwb : w.heap.size ≤ wr.heap.size := HW.out.1.size
          have HCK : Hid (∀ W, Below wr.heap.size wr W → W.cell? ⟨b, off + k, none⟩ = some (.int .u64 (l.getD k 0 : Int))) := by
            show ∀ W, _ → _
            intro W hW
            obtain ⟨b1, off1, ha1, hb1, -⟩ := HL.out.at hlt
            obtain ⟨rfl, rfl⟩ : b1 = b ∧ off1 = off := by cases ha1; exact ⟨rfl, rfl⟩
            exact (hW.cell (p := ⟨b1, off1 + k, none⟩) (Nat.lt_of_lt_of_le hb1 hwb)).trans hck
          clear hck
          generalize l.getD k 0 = x at *
          cases p with
          | none =>
            obtain ⟨rfl, rfl⟩ := HNIL.out rfl
            have hk0 : k = 0 := HSK.out.symm
            subst hk0
            have hA0 : A = 0 := by omega
            subst hA0
            have hck := HCK.out wr (Below.refl _ _)
            rw [Nat.add_zero] at hck
            go_wp2_with (first
              | (go_at_call 15; refine (HBITS.out _).mono ?_; rintro e w' ⟨rfl, rfl⟩)
              | (at_builtin; refine wpList_append_own_none rfl (.tmp 34) (.tmp 37) 30 rfl wr.heap.size 22 i0 1 Try.underlying30 hi (.slice none 0 0) 0 [] rfl (World.ownsRow_nil _ _ _ _) rfl ?_)
              | (at_builtin; refine wpList_append_own _ rfl (.tmp 39) (.tmp 45) 30 rfl wr.heap.size 22 i0 (.int .u64 0) 1 8 Try.underlying30 hi hz0 hz1 hz2 rfl (by decide) _ _ _ rfl (World.ownsRow_nil _ _ _ _) ⟨wr.heap.size, 0, none⟩ 1 1 [.int .u64 (bitsN x : Int)] rfl rfl one_news (by intro u hu; simp at hu; subst hu; rfl) (by unfold maxLen; omega) (by omega) (by simp) ?_))
            intro v2 w2 hown2 hg2 _
            have HO2 : Hid (w2.ownsRow wr.heap.size 22 1 v2 1 [encU (bitsN x)]) := hown2
            have HB2 : Hid (Below w.heap.size w w2) := (HW.out.1.alloc hwb _).grown hg2 (HW.out.1.alloc hwb _).size (fun j hj => by cases hj)
            clear hown2 hg2 hck
            go_wp2_with (first
              | (at_builtin; refine wpList_append_own_none rfl (.tmp 47) (.tmp 50) 30 rfl wr.heap.size 22 i0 1 Try.underlying30 hi _ _ _ rfl HO2.out rfl ?_))
            go_roundw
            case rel => exact ⟨1, _, rfl, hlt, rfl, HB2.out, owns_mono HO2.out hwb, HSTEP.out⟩
            case measure => (simp [intOf] <;> omega)
          | some pa =>
            obtain ⟨g, rfl, hg1, hg2⟩ := HSOME.out _ rfl
            have hcells : ∀ W, Below wr.heap.size wr W → ∀ i, i < S.length → W.cell? ⟨g, i, none⟩ = some (encU (S.getD i 0)) := by
              intro W hW i hi
              obtain ⟨b1, off1, ha1, hb1, hc1⟩ := HW.out.2.2.at hi
              obtain ⟨rfl, rfl⟩ : b1 = g ∧ off1 = 0 := by cases ha1; exact ⟨rfl, rfl⟩
              rw [Nat.zero_add] at hc1
              exact (hW.cell (p := ⟨b1, i, none⟩) hb1).trans hc1
            have HCE := Lib.hid hcells
            have hlT : ((S.take A).map encU).length = A * 1 := by rw [List.length_map, List.length_take, HSK.out]; omega
            have HLT := Lib.hid hlT
            have hlD : ((S.drop A).map encU).length = (k - A) * 1 := by rw [List.length_map, List.length_drop, HSK.out]; omega
            have HLD := Lib.hid hlD
            clear hcells hlT hlD
            go_wp2_with (first
              | (at_builtin; refine wpList_append_own _ rfl (.tmp 34) (.tmp 37) 30 rfl wr.heap.size 22 i0 (.int .u64 0) 1 8 Try.underlying30 hi hz0 hz1 hz2 rfl (by decide) (.slice none 0 0) 0 [] rfl (World.ownsRow_nil _ _ _ _) ⟨g, 0, none⟩ A cp ((S.take A).map encU) rfl HLT.out (news_take (HCE.out _ (Below.refl _ _))) (one_cells _) (by unfold maxLen; omega) (by omega) (Nat.le_refl _) ?_))
            intro v1 w1 hown1 hg1' _
            have HO1 : Hid (w1.ownsRow wr.heap.size 22 1 v1 A ((S.take A).map encU)) := by
              rw [← List.map_take] at hown1
              exact hown1
            have HB1 : Hid (Below wr.heap.size wr w1) := (Below.refl _ _).grown hg1' (Nat.le_refl _) (fun j hj => by cases hj)
            have hz1' : wr.heap.size ≤ w1.heap.size := HB1.out.size
            have hck := HCK.out w1 HB1.out
            have hlx : ((S.take A).map encU ++ [Value.int .u64 (bitsN x : Int)]).length = (A + 1) * 1 := by
              rw [List.length_append, HLT.out]; simp
            have HLX := Lib.hid hlx
            clear hown1 hg1' hlx
            go_wp2_with (first
              | (go_at_call 15; refine (HBITS.out _).mono ?_; rintro e w' ⟨rfl, rfl⟩)
              | (at_builtin; refine wpList_append_own _ rfl (.tmp 39) (.tmp 45) 30 rfl wr.heap.size 22 i0 (.int .u64 0) 1 8 Try.underlying30 hi hz0 hz1 hz2 rfl (by decide) _ _ _ rfl (HO1.out.alloc _) ⟨w1.heap.size, 0, none⟩ 1 1 [.int .u64 (bitsN x : Int)] rfl rfl one_news (by intro u hu; simp at hu; subst hu; rfl) (by unfold maxLen; omega) (by omega) (by simp; omega) ?_))
            intro v2 w2 hown2 hg2' _
            have HO2 : Hid (w2.ownsRow wr.heap.size 22 1 v2 (A + 1) ((S.take A).map encU ++ [.int .u64 (bitsN x : Int)])) := by
              rw [← List.map_take] at hown2
              exact hown2
            have HB2 : Hid (Below wr.heap.size wr w2) := (HB1.out.alloc hz1' _).grown hg2' (HB1.out.alloc hz1' _).size (fun j hj => (HO1.out.lt j hj).1)
            have hz2' : wr.heap.size ≤ w2.heap.size := HB2.out.size
            have HLS : Hid ((S.take A ++ [bitsN x] ++ S.drop A).length = k + 1) := by
              show _ = _
              simp only [List.length_append, List.length_take, List.length_drop, List.length_singleton]
              have := HSK.out
              omega
            clear hown2 hg2' hck
            by_cases hcA : cp = A
            · have hkA : k = A := by omega
              have HD0 : Hid ((S.drop A).map encU = []) := by
                show _ = _
                rw [List.drop_of_length_le (by rw [HSK.out]; omega)]; rfl
              go_wp2_with (first
                | (at_builtin; refine wpList_append_own _ rfl (.tmp 47) (.tmp 50) 30 rfl wr.heap.size 22 i0 (.int .u64 0) 1 8 Try.underlying30 hi hz0 hz1 hz2 rfl (by decide) _ _ _ rfl HO2.out ⟨g, 0, none⟩ 0 0 [] rfl rfl (by intro j u hj; simp at hj) (by intro u hu; simp at hu) (by unfold maxLen; omega) (by omega) hz2' ?_))
              intro v3 w3 hown3 hg3' _
              have HO3 : Hid (w3.ownsRow wr.heap.size 22 1 v3 (S.take A ++ [bitsN x] ++ S.drop A).length ((S.take A ++ [bitsN x] ++ S.drop A).map encU)) := by
                show w3.ownsRow _ _ _ _ _ _
                rw [HLS.out, List.map_append, List.map_append, HD0.out, List.append_nil, hkA]
                rw [← List.map_take] at hown3
                exact hown3
              have HB3 : Hid (Below w.heap.size w w3) := HW.out.1.trans ((HB2.out.grown hg3' hz2' (fun j hj => (HO2.out.lt j hj).1)).mono hwb)
              clear hown3 hg3'
              go_wp2
              go_roundw
              case rel => exact ⟨k + 1, S.take A ++ [bitsN x] ++ S.drop A, by first | go_num | (congr 1; omega), hlt, HLS.out, HB3.out, owns_mono HO3.out hwb, HSTEP.out⟩
              case measure => (simp [intOf] <;> omega)
            · go_wp2_with (first
                | (at_builtin; refine wpList_append_own _ rfl (.tmp 47) (.tmp 50) 30 rfl wr.heap.size 22 i0 (.int .u64 0) 1 8 Try.underlying30 hi hz0 hz1 hz2 rfl (by decide) _ _ _ rfl HO2.out ⟨g, A, none⟩ (k - A) (cp - A) ((S.drop A).map encU) rfl HLD.out (news_drop (HCE.out _ HB2.out)) (one_cells _) (by unfold maxLen; omega) (by omega) hz2' ?_))
              intro v3 w3 hown3 hg3' _
              have HO3 : Hid (w3.ownsRow wr.heap.size 22 1 v3 (S.take A ++ [bitsN x] ++ S.drop A).length ((S.take A ++ [bitsN x] ++ S.drop A).map encU)) := by
                show w3.ownsRow _ _ _ _ _ _
                rw [HLS.out, List.map_append, List.map_append, List.append_assoc, show k + 1 = A + 1 + (k - A) by omega]
                rw [← List.map_take, ← List.map_drop] at hown3
                exact hown3
              have HB3 : Hid (Below w.heap.size w w3) := HW.out.1.trans ((HB2.out.grown hg3' hz2' (fun j hj => (HO2.out.lt j hj).1)).mono hwb)
              clear hown3 hg3'
              go_wp2
              go_roundw
              case rel => exact ⟨k + 1, S.take A ++ [bitsN x] ++ S.drop A, by go_num, hlt, HLS.out, HB3.out, owns_mono HO3.out hwb, HSTEP.out⟩
              case measure => (simp [intOf] <;> omega)
    · have hke : k = l.length := by omega
      subst hke
      have HF := Lib.hid (HI.out.done HR.out)
      go_wp2
      go_ret
      refine ⟨p, cp, rfl, HB.out, ?_⟩
      rw [← HF.out]
      exact HRD.out
end Go.Proofs.Ytbebnhadgbkepaa
