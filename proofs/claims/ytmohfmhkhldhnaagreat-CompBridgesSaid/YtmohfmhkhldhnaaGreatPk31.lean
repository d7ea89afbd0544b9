/- Texts that the laws of this seat stand on, part 31. -/
import Derived.Test.YtmohfmhkhldhnaaGreatPk30
import Derived.Shelf.Bits.Mul64
import Derived.Ground.SlgmProg
import Derived.Shelf.SortM.Plain
import Derived.Shelf.SortM.SortNone
import Derived.Test.YtmohfmhkhldhnaaGreatProg
/- Contract of from: all that hangs together with a vertex is reached. -/
namespace Go.Proofs.YtmohfmhkhldhnaaGreat.Cm
open Go.RowKit Go.ChangeShapes EdPure NtPure DsuPure CmPure
/-- What stands while a walk from v goes on at the place a. -/
def FrSt (b g : Nat) (p : Option Addr) (rv uv : Value) (w : World) (N : Nat) (M : List Ed) (R0 : List Nat) (v a : Nat) (D : List Int) (rv' uv' : Value) (R : List Nat) (U P : List Int) (W : World) : Prop :=
  WkX b g p rv' uv' R U P W ∧ (Turn (WkO b g rv uv) w W ∧ ∀ k, WkO b g rv' uv' k → WkO b g rv uv k ∨ w.heap.size ≤ k) ∧ Go N M R0 v a D R U P
/-- A list beside the walk. -/
def LsAt (L : List Int) (ql : Value) (b g : Nat) (rv uv : Value) (W : World) : Prop := ∃ B, W.ownsRow B 3 1 ql L.length (L.map encZ) ∧ ∀ k, ql.ownBlock = some k → ¬ WkO b g rv uv k
section
variable {b g : Nat} {p : Option Addr} {rv uv : Value} {w : World} {N : Nat} {M : List Ed} {R0 : List Nat} {v a : Nat} {D L : List Int} {rv' uv' ql : Value} {R : List Nat} {U P : List Int} {W W' : World}
theorem FrSt.keep (h : FrSt b g p rv uv w N M R0 v a D rv' uv' R U P W) (hb : Below W.heap.size W W') : FrSt b g p rv uv w N M R0 v a D rv' uv' R U P W' :=
  ⟨h.1.keep hb, ⟨h.2.1.1.trans (Turn.ofBelow (O := fun _ => False) hb) fun _ e => e.elim, h.2.1.2⟩, h.2.2⟩
theorem FrSt.turn {rv2 uv2 : Value} {R2 : List Nat} {U2 P2 D2 : List Int} (h : FrSt b g p rv uv w N M R0 v a D rv' uv' R U P W) (h1 : WkX b g p rv2 uv2 R2 U2 P2 W') (ht : Turn (WkO b g rv' uv') W W') (ho : ∀ k, WkO b g rv2 uv2 k → WkO b g rv' uv' k ∨ W.heap.size ≤ k) (hg : Go N M R0 v a D2 R2 U2 P2) :
    FrSt b g p rv uv w N M R0 v a D2 rv2 uv2 R2 U2 P2 W' := by
  refine ⟨h1, ⟨h.2.1.1.trans ht h.2.1.2, fun k hk => ?_⟩, hg⟩
  rcases ho k hk with e | e
  · exact h.2.1.2 k e
  · exact Or.inr (Nat.le_trans h.2.1.1.size e)
theorem LsAt.new (h : FrSt b g p rv uv w N M R0 v a D rv' uv' R U P W) (ho : W'.ownsRow W.heap.size 3 1 ql L.length (L.map encZ)) : LsAt L ql b g rv' uv' W' :=
  ⟨_, ho, fun k hk e => by have := (h.1.lt e).2; have := (ho.lt k hk).1; omega⟩
theorem LsAt.turn {rv2 uv2 : Value} (h : LsAt L ql b g rv' uv' W) (ht : Turn (WkO b g rv' uv') W W') (ho : ∀ k, WkO b g rv2 uv2 k → WkO b g rv' uv' k ∨ W.heap.size ≤ k) : LsAt L ql b g rv2 uv2 W' := by
  obtain ⟨B, h1, h2⟩ := h
  refine ⟨B, owns_same h1 fun k hk => ht.2.2.2.2 k (h1.lt k hk).2 (h2 k hk), fun k hk e => ?_⟩
  rcases ho k e with e | e
  · exact h2 k hk e
  · have := (h1.lt k hk).2; omega
theorem LsAt.at {q : Option Addr} {c : Nat} (h : LsAt L (.slice q L.length c) b g rv uv W) {k : Nat} (hk : k < L.length) : ∃ B off, q = some ⟨B, off, none⟩ ∧ W.cell? ⟨B, off + k, none⟩ = some (.int .i64 L[k]) ∧ B < W.heap.size := by
  obtain ⟨B, h1, -⟩ := h
  obtain ⟨q', c', e, hr, -⟩ := owns_readsL rfl h1
  cases e
  obtain ⟨B, off, e, hB, hc⟩ := hr.at hk
  exact ⟨B, off, e, hc, hB⟩
end
theorem zN_at {R : List Nat} {a x : Nat} (h : R[a]? = some x) (hl : a < (zN R).length) : (zN R)[a] = (x : Int) := by
  have e : (zN R)[a]? = some (x : Int) := by unfold zN; rw [List.getElem?_map, h]; rfl
  exact (List.getElem?_eq_some_iff.1 e).2
theorem zN_len' (R : List Nat) : (zN R).length = R.length := by unfold zN; simp
def FromOut (b g : Nat) (p : Option Addr) (rv uv : Value) (N : Nat) (M : List Ed) (R : List Nat) (v : Nat) (w w' : World) : Prop := ∃ R' U' P', WkOut b g p rv uv R' U' P' w w' ∧ FromP N M R v R' U' P'
set_option maxRecDepth 100000 in
set_option maxHeartbeats 4000000 in
theorem from_any (b g : Nat) (p : Option Addr) (rv uv : Value) (R0 : List Nat) (U0 P0 : List Int) (N : Nat) (M : List Ed) (v : Nat) (hv : v < N) (hN : N ≤ 4096) (hG : GoodN N M) (hM : M.length ≤ 1048576) (w : World)
    (h : WkX b g p rv uv R0 U0 P0 w) (hW : Wk N M R0 U0 P0) (hc : Cl M R0 R0.length) (hnet : ∀ W, Turn (WkO b g rv uv) w W → NetAt p N M W) :
    Calls Tryz.prog 31 #[.pointer (some ⟨b, 0, none⟩), .int .i64 (v : Int)] w fun e w' => e = .returned (.tuple #[]) ∧ FromOut b g p rv uv N M R0 v w w' := by
  have HG := Lib.hid hG
  have HNet := Lib.hid hnet
  have hlR := hW.few
  have hlU := hW.ul
  have hlP := hW.pl
  have HX := Lib.hid h
  have HLE : Hid (∀ x : Nat, (nearE M (x : Int)).length ≤ 1048576) := Lib.hid fun x => by have := nearV_len N M (x : Int); rw [nearV_eq hG] at this; omega
  have HRE : Hid (Calls Tryz.prog 55 #[.pointer (some ⟨b, 0, none⟩), .int .i64 (v : Int), .int .i64 (-1)] w fun e w' => e = .returned (.tuple #[]) ∧ ∃ rv' uv' R U P, FrSt b g p rv uv w N M R0 v R0.length [] rv' uv' R U P w') := by
    rcases hW.place hv with ⟨h1, h2⟩ | ⟨i, h1, h2⟩
    · refine Lib.hid ((reachNew_any b g p rv uv R0 U0 P0 v (-1) w h h2 (by omega) (by omega) (by omega)).mono ?_)
      rintro e w' ⟨rfl, rv', uv', k1, k2, k3⟩
      exact ⟨rfl, rv', uv', _, _, _, k1, ⟨k2, k3⟩, from_new hW hc hv h1⟩
    · refine Lib.hid ((reachOld_any b g p rv uv R0 U0 P0 v i (-1) w h h2 (by omega)).mono ?_)
      rintro e w' ⟨rfl, rfl⟩
      exact ⟨rfl, rv, uv, _, _, _, h, ⟨Turn.refl _ _, fun _ e => Or.inl e⟩, from_hit hW hc (List.mem_iff_getElem?.2 ⟨i, h1⟩)⟩
  obtain ⟨⟨-, c1, -, -⟩, -⟩ := h.1.cells
  obtain ⟨rq, rc, e0⟩ := owns_any h.2.2.1.1
  subst e0
  have hb := h.1.lt
  clear h hW hc hnet hG
  go_enter Tryz.func31, Tryz.ntmps31
  go_wp2_with fail
  refine HRE.out.mono ?_
  rintro e w1 ⟨rfl, rv1, uv1, R1, U1, P1, h1⟩
  have H1 := Lib.hid h1
  clear h1 HRE c1 hb HX
  go_wp2_with fail
  go_loopw [4] (fun i wr => ∃ (a : Nat) (rv' uv' : Value) (R : List Nat) (U P : List Int), i = .int .i64 a ∧ a ≤ N ∧ Hid (FrSt b g p (.slice rq R0.length rc) uv w N M R0 v a [] rv' uv' R U P wr)) (fun i _ => N - (intOf i).toNat)
  case atStart => exact ⟨R0.length, _, _, _, _, _, rfl, hlR, H1⟩
  case round =>
    clear H1 hlR hlU hlP
    obtain ⟨a, rv', uv', R, U, P, rfl, ha, HF⟩ := hrel
    obtain ⟨r1q, r1c, u1q, u1c, rfl, rfl, ⟨c0, c1, c2, c3⟩, ⟨f1, f2⟩, ⟨hb, hg, nb, ng⟩, hr1, -⟩ := HF.out.1.cells
    have hlR := HF.out.2.2.wk.few
    have hlU := HF.out.2.2.wk.ul
    have hlP := HF.out.2.2.wk.pl
    by_cases hlt : a < R.length
    · have i1 : (a : Int) < (R.length : Int) := by omega
      have i0 : (0 : Int) ≤ (a : Int) := by omega
      obtain ⟨x, hxa⟩ : ∃ x, R[a]? = some x := ⟨_, List.getElem?_eq_getElem hlt⟩
      have HXA := Lib.hid hxa
      obtain ⟨Rb, Ro, e1, hRb, hcx⟩ := hr1.at (k := a) (by rw [zN_len']; exact hlt)
      rw [zN_at hxa] at hcx
      unfold encZ at hcx
      subst e1
      have HF1 := Lib.hid (fun n => HF.out.keep (below_drewN (Below.refl _ _) n))
      clear hxa hr1 HF c2 c3 f1 f2 hRb
      go_wp2_with fail
      go_cut [35, 36, 37] from 24 to 45 (fun s t i wx => ∃ (lq : Option Addr) (lc : Nat), s = .slice lq (nearE M (x : Int)).length lc ∧ t = .int .i64 ((nearE M (x : Int)).length : Nat) ∧ i = .int .i64 0 ∧ Hid (FrSt b g p (.slice rq R0.length rc) uv w N M R0 v a ((nearE M (x : Int)).take 0) (.slice (some ⟨Rb, Ro, none⟩) R.length r1c) (.slice u1q U.length u1c) R U P wx ∧ LsAt (nearE M (x : Int)) (.slice lq (nearE M (x : Int)).length lc) b g (.slice (some ⟨Rb, Ro, none⟩) R.length r1c) (.slice u1q U.length u1c) wx))
      case first =>
        go_region_with (go_at_call 56; refine (Nn.nearO_any p N M hM (x : Int) _ (HNet.out _ (HF1.out _).2.1.1)).mono ?_; rw [nearV_eq HG.out]; rintro e w2 ⟨hb2, lv, rfl, ho⟩; obtain ⟨lq, lc, e2⟩ := owns_any ho; subst e2; have HL0 := Lib.hid (And.intro ((HF1.out _).keep hb2) (LsAt.new (HF1.out _) ho)); clear hb2 ho)
        all_goals (go_wp2_with fail; go_meet)
        all_goals (case rel => exact ⟨_, _, rfl, rfl, rfl, Lib.hid ⟨by rw [List.take_zero]; exact HL0.out.1, HL0.out.2⟩⟩)
      case rest =>
      obtain ⟨lq, lc, rfl, rfl, rfl, HL⟩ := hcut
      have hll := HLE.out x
      have HIN : Hid (∀ u ∈ nearE M (x : Int), ∃ y : Nat, u = (y : Int) ∧ adj M x y) := Lib.hid fun u hu => (adj_near HG.out).1 hu
      have HND : Hid (∀ D, D = nearE M (x : Int) → ∀ {rv' uv' R U P W}, FrSt b g p (.slice rq R0.length rc) uv w N M R0 v a D rv' uv' R U P W → R[a]? = some x → FrSt b g p (.slice rq R0.length rc) uv w N M R0 v (a + 1) [] rv' uv' R U P W) := Lib.hid fun D hD rv' uv' R U P W h hx => ⟨h.1, h.2.1, h.2.2.next HG.out hx hD⟩
      generalize nearE M (x : Int) = L at *
      clear HF1 c0 c1 hcx hb hg i1
      go_wp2_with fail
      go_loopw [37] (fun i wr => ∃ (k : Nat) (rv' uv' : Value) (R : List Nat) (U P : List Int), i = .int .i64 k ∧ k ≤ L.length ∧ R[a]? = some x ∧ Hid (FrSt b g p (.slice rq R0.length rc) uv w N M R0 v a (L.take k) rv' uv' R U P wr ∧ LsAt L (.slice lq L.length lc) b g rv' uv' wr)) (fun i _ => L.length - (intOf i).toNat)
      case atStart => exact ⟨0, _, _, _, _, _, rfl, Nat.zero_le _, HXA.out, HL⟩
      case round =>
        clear HL HXA
        obtain ⟨k, rv', uv', R, U, P, rfl, hk, hxa, HI⟩ := hrel
        have hlR := HI.out.1.2.2.wk.few
        have hlU := HI.out.1.2.2.wk.ul
        have hlP := HI.out.1.2.2.wk.pl
        by_cases hlk : k < L.length
        · have i2 : (k : Int) < (L.length : Int) := by omega
          have i3 : (0 : Int) ≤ (k : Int) := by omega
          obtain ⟨y, hy, hxy⟩ := HIN.out L[k] (List.getElem_mem hlk)
          obtain ⟨Lb, Lo, e1, hck, hLb⟩ := HI.out.2.at hlk
          rw [hy] at hck
          subst e1
          have HU : Hid (L.take (k + 1) = L.take k ++ [(y : Int)]) := Lib.hid (by rw [List.take_succ_eq_append_getElem hlk, hy])
          have hyN := (adj_in HG.out hxy).2.1
          have HRE : Hid (Calls Tryz.prog 55 #[.pointer (some ⟨b, 0, none⟩), .int .i64 (y : Int), .int .i64 (a : Int)] wr fun e w' => e = .returned (.tuple #[]) ∧ ∃ rv2 uv2 R2 U2 P2, R2[a]? = some x ∧ FrSt b g p (.slice rq R0.length rc) uv w N M R0 v a (L.take (k + 1)) rv2 uv2 R2 U2 P2 w' ∧ LsAt L (.slice (some ⟨Lb, Lo, none⟩) L.length lc) b g rv2 uv2 w') := by
            rw [HU.out]
            rcases HI.out.1.2.2.wk.place hyN with ⟨h1, h2⟩ | ⟨i, h1, h2⟩
            · refine Lib.hid ((reachNew_any b g p rv' uv' R U P y (a : Int) wr HI.out.1.1 h2 (by omega) (by omega) (by omega)).mono ?_)
              rintro e w' ⟨rfl, rv2, uv2, k1, k2, k3⟩
              exact ⟨rfl, rv2, uv2, _, _, _, by rw [List.getElem?_append_left (List.getElem?_eq_some_iff.1 hxa).1]; exact hxa, HI.out.1.turn k1 k2 k3 (HI.out.1.2.2.more HG.out hxa hxy h1), HI.out.2.turn k2 k3⟩
            · refine Lib.hid ((reachOld_any b g p rv' uv' R U P y i (a : Int) wr HI.out.1.1 h2 (by omega)).mono ?_)
              rintro e w' ⟨rfl, rfl⟩
              exact ⟨rfl, rv', uv', R, U, P, hxa, ⟨HI.out.1.1, HI.out.1.2.1, HI.out.1.2.2.hit (List.mem_iff_getElem?.2 ⟨i, h1⟩)⟩, HI.out.2⟩
          clear hy hxy HI hxa hyN HU
          go_wp2_with fail
          refine HRE.out.mono ?_
          rintro e w3 ⟨rfl, rv2, uv2, R2, U2, P2, h1, h2⟩
          have H2 := Lib.hid h2
          have H1 := Lib.hid h1
          clear h1 h2 HRE hck hLb
          go_wp2
          go_roundw
          case rel => exact ⟨k + 1, _, _, _, _, _, by go_num, hlk, H1.out, H2⟩
          case measure => (simp [intOf]; omega)
        · have i2 : ¬ (k : Int) < (L.length : Int) := by omega
          have HE : Hid (FrSt b g p (.slice rq R0.length rc) uv w N M R0 v (a + 1) [] rv' uv' R U P wr) := Lib.hid (HND.out _ (by rw [List.take_of_length_le (by omega)]) HI.out.1 hxa)
          have haN : a + 1 ≤ N := by have := (List.getElem?_eq_some_iff.1 hxa).1; omega
          clear HI hxa
          go_wp2
          go_roundw
          case rel => exact ⟨a + 1, _, _, _, _, _, by go_num, haN, HE⟩
          case measure => (simp [intOf]; omega)
    · have i1 : ¬ (a : Int) < (R.length : Int) := by omega
      have HE : Hid (FromOut b g p (.slice rq R0.length rc) uv N M R0 v w wr) := Lib.hid ⟨R, U, P, ⟨_, _, HF.out.1, HF.out.2.1⟩, HF.out.2.2.done hlt⟩
      clear hlt hr1
      go_wp2
      go_end0
      exact ⟨rfl, HE.out⟩
end Go.Proofs.YtmohfmhkhldhnaaGreat.Cm
/- The library's contracts that a walk leans on, laid at this program: slices.Sort at ints, bits.Mul64. -/
namespace Go.Proofs
open Go.Shelf
def Tryz.laysSort_ren : Go.Shelf.Ren := ⟨fun | 5 => 32 | 8 => 58 | 7 => 57 | 19 => 85 | 20 => 86 | 10 => 76 | 11 => 77 | 12 => 78 | 13 => 79 | 14 => 80 | 15 => 81 | 16 => 82 | 17 => 83 | 18 => 84 | 30 => 101 | 31 => 102 | 32 => 103 | 33 => 104 | 34 => 105 | 35 => 97 | 40 => 109 | n => n, fun | 23 => 32 | 25 => 3 | 3 => 3 | 32 => 88 | 22 => 32 | 0 => 0 | 44 => 134 | 46 => 136 | 4 => 4 | 36 => 128 | 35 => 127 | 41 => 110 | 5 => 5 | 9 => 9 | 53 => 150 | 57 => 154 | 63 => 158 | 64 => 159 | n => n, fun | n => n⟩
theorem Tryz.laysSort : Go.Proofs.SlLaysM.n5 Tryz.prog Tryz.laysSort_ren := {
  mixed := by kernel_rfl
  f5 := ⟨Tryz.f32.name, by decide, Tryz.func32.trans (congrArg some (by kernel_rfl))⟩
  f7 := ⟨Tryz.f57.name, by decide, Tryz.func57.trans (congrArg some (by kernel_rfl))⟩
  f8 := Tryz.func58.trans (congrArg some (by kernel_rfl))
  f10 := ⟨Tryz.f76.name, by decide, Tryz.func76.trans (congrArg some (by kernel_rfl))⟩
  f11 := ⟨Tryz.f77.name, by decide, Tryz.func77.trans (congrArg some (by kernel_rfl))⟩
  f12 := ⟨Tryz.f78.name, by decide, Tryz.func78.trans (congrArg some (by kernel_rfl))⟩
  f13 := ⟨Tryz.f79.name, by decide, Tryz.func79.trans (congrArg some (by kernel_rfl))⟩
  f14 := ⟨Tryz.f80.name, by decide, Tryz.func80.trans (congrArg some (by kernel_rfl))⟩
  f15 := ⟨Tryz.f81.name, by decide, Tryz.func81.trans (congrArg some (by kernel_rfl))⟩
  f16 := ⟨Tryz.f82.name, by decide, Tryz.func82.trans (congrArg some (by kernel_rfl))⟩
  f17 := ⟨Tryz.f83.name, by decide, Tryz.func83.trans (congrArg some (by kernel_rfl))⟩
  f18 := ⟨Tryz.f84.name, by decide, Tryz.func84.trans (congrArg some (by kernel_rfl))⟩
  f19 := Tryz.func85.trans (congrArg some (by kernel_rfl))
  f20 := Tryz.func86.trans (congrArg some (by kernel_rfl))
  f30 := ⟨Tryz.f101.name, by decide, Tryz.func101.trans (congrArg some (by kernel_rfl))⟩
  f31 := Tryz.func102.trans (congrArg some (by kernel_rfl))
  f32 := Tryz.func103.trans (congrArg some (by kernel_rfl))
  f33 := ⟨Tryz.f104.name, by decide, Tryz.func104.trans (congrArg some (by kernel_rfl))⟩
  f34 := ⟨Tryz.f105.name, by decide, Tryz.func105.trans (congrArg some (by kernel_rfl))⟩
  f35 := ⟨Tryz.f97.name, by decide, Tryz.func97.trans (congrArg some (by kernel_rfl))⟩
  f40 := ⟨Tryz.f109.name, by decide, Tryz.func109.trans (congrArg some (by kernel_rfl))⟩
  t0 := Tryz.underlying0
  a0 := Tryz.isAgg0
  z0 := Tryz.sizeOf0
  v0 := Tryz.zeroValue0
  t3 := Tryz.underlying3
  a3 := Tryz.isAgg3
  z3 := Tryz.sizeOf3
  v3 := Tryz.zeroValue3
  t4 := Tryz.underlying4
  a4 := Tryz.isAgg4
  z4 := Tryz.sizeOf4
  v4 := Tryz.zeroValue4
  t5 := Tryz.underlying5
  a5 := Tryz.isAgg5
  z5 := Tryz.sizeOf5
  v5 := Tryz.zeroValue5
  t9 := Tryz.underlying9
  a9 := Tryz.isAgg9
  z9 := Tryz.sizeOf9
  v9 := Tryz.zeroValue9
  t22 := Tryz.underlying32
  a22 := Tryz.isAgg32
  z22 := Tryz.sizeOf32
  v22 := Tryz.zeroValue32
  t23 := Tryz.underlying32
  a23 := Tryz.isAgg32
  z23 := Tryz.sizeOf32
  v23 := Tryz.zeroValue32
  t25 := Tryz.underlying3
  a25 := Tryz.isAgg3
  z25 := Tryz.sizeOf3
  v25 := Tryz.zeroValue3
  t32 := Tryz.underlying88
  a32 := Tryz.isAgg88
  z32 := Tryz.sizeOf88
  v32 := Tryz.zeroValue88
  t35 := Tryz.underlying127
  a35 := Tryz.isAgg127
  z35 := Tryz.sizeOf127
  v35 := Tryz.zeroValue127
  t36 := Tryz.underlying128
  a36 := Tryz.isAgg128
  z36 := Tryz.sizeOf128
  v36 := Tryz.zeroValue128
  t41 := Tryz.underlying110
  a41 := Tryz.isAgg110
  z41 := Tryz.sizeOf110
  v41 := Tryz.zeroValue110
  t44 := Tryz.underlying134
  a44 := Tryz.isAgg134
  z44 := Tryz.sizeOf134
  v44 := Tryz.zeroValue134
  t46 := Tryz.underlying136
  a46 := Tryz.isAgg136
  z46 := Tryz.sizeOf136
  v46 := Tryz.zeroValue136
  t53 := Tryz.underlying150
  a53 := Tryz.isAgg150
  z53 := Tryz.sizeOf150
  v53 := Tryz.zeroValue150
  t57 := Tryz.underlying154
  a57 := Tryz.isAgg154
  z57 := Tryz.sizeOf154
  v57 := Tryz.zeroValue154
  t63 := Tryz.underlying158
  a63 := Tryz.isAgg158
  z63 := Tryz.sizeOf158
  v63 := Tryz.zeroValue158
  t64 := Tryz.underlying159
  a64 := Tryz.isAgg159
  z64 := Tryz.sizeOf159
  v64 := Tryz.zeroValue159 }
def Tryz.lays264_ren : Go.Shelf.Ren := ⟨fun | 264 => 100 | n => n, fun | 53 => 136 | 46 => 88 | n => n, fun | n => n⟩
theorem Tryz.lays264 : Go.Proofs.Lays.n264 Tryz.prog Tryz.lays264_ren := {
  mixed := by kernel_rfl
  f264 := Tryz.func100.trans (congrArg some (by kernel_rfl))
  t46 := Tryz.underlying88
  a46 := Tryz.isAgg88
  z46 := Tryz.sizeOf88
  v46 := Tryz.zeroValue88
  t53 := Tryz.underlying136
  a53 := Tryz.isAgg136
  z53 := Tryz.sizeOf136
  v53 := Tryz.zeroValue136 }
open Go.RowKit Go.Lib in
theorem Tryz.bits_Mul64 (x y : Nat) (hx : x < 18446744073709551616) (hy : y < 18446744073709551616) (w : World) :
    Calls Tryz.prog 100 #[.int .u64 x, .int .u64 y] w fun e w' => e = .returned (.tuple #[.int .u64 ((x * y / 18446744073709551616 : Nat) : Int), .int .u64 ((x * y % 18446744073709551616 : Nat) : Int)]) ∧ w' = w := Any.bits_Mul64 Tryz.lays264 x y hx hy w
end Go.Proofs
