/- The walk of ParityLinear. -/
import Derived.Test.YtbdmbhpmbklaiaaU3
import Derived.Test.YtbdmbhpmbklaiaaW1
import Derived.Lib.MinMax
import Derived.BigQuiet
import Derived.Deep.QuietTactic
namespace Go.Proofs.Ytbdmbhpmbklaiaa
open Go.RowKit Gf

@[go_sem high] theorem run_min3 {P : Program} (w : World) (ts : Array TypeId) (t : TypeId) (k k' k'' : IntKind) (x y z : Int) :
    (Builtin.min_ ts t #[.int k x, .int k' y, .int k'' z]).run P w = .ok (.int k (min (min x y) z)) w := by
  have e : ∀ a b : Int, (if b < a then b else a) = min a b := fun a b => by
    rw [Int.min_def]
    split <;> split <;> omega
  simp [Builtin.min_, Builtin.min2, e]
theorem tmod_nat3 (a b : Nat) : Int.tmod (a : Int) (b : Int) = ((a % b : Nat) : Int) := rfl
/-- A byte of a shard, or none. -/
def at0 (s : Sd) (j : Nat) : G := (sl s).getD j 0
/-- The j-th bytes of three rows: the third is the sum of the others. -/
def Sum3 (p q r : List G) (j : Nat) : Prop := p.length = j ∧ q.length = j ∧ r.length = j ∧ ∀ b, b < j → r.getD b 0 = p.getD b 0 + q.getD b 0
theorem Sum3.more {p q r : List G} {j : Nat} (h : Sum3 p q r j) (x y : G) : Sum3 (p ++ [x]) (q ++ [y]) (r ++ [x + y]) (j + 1) := by
  obtain ⟨h1, h2, h3, h4⟩ := h
  refine ⟨by simp [h1], by simp [h2], by simp [h3], fun b hb => ?_⟩
  by_cases e : b < j
  · have := h4 b e
    simp only [List.getD] at this ⊢
    rw [List.getElem?_append_left (by omega), List.getElem?_append_left (by omega), List.getElem?_append_left (by omega)]
    exact this
  · have e2 : b = j := by omega
    subst e2
    simp [List.getD, ← h1]
    simp [h1, ← h2]
    simp [h2, ← h3]
/-- Three groups' data so far. -/
structure Trio (D E F : List Sd) (i : Nat) : Prop where
  ld : D.length = i
  le : E.length = i
  lf : F.length = i
  row : ∀ j, j < i → (D.getD j none).isSome = true ∧ (E.getD j none).isSome = true ∧ (F.getD j none).isSome = true ∧ Sum3 (sl (D.getD j none)) (sl (E.getD j none)) (sl (F.getD j none)) 20
theorem getD_snoc {L : List Sd} {s : Sd} {j : Nat} : (L ++ [s]).getD j none = if j < L.length then L.getD j none else if j = L.length then s else none := by
  by_cases h : j < L.length
  · rw [if_pos h]; simp only [List.getD]; rw [List.getElem?_append_left h]
  · rw [if_neg h]
    by_cases e : j = L.length
    · rw [if_pos e, e]; simp [List.getD]
    · rw [if_neg e]; simp only [List.getD]; rw [List.getElem?_eq_none (by simp; omega)]; rfl
theorem Trio.more {D E F : List Sd} {i : Nat} (h : Trio D E F i) {p q r : List G} (hs : Sum3 p q r 20) : Trio (D ++ [some p]) (E ++ [some q]) (F ++ [some r]) (i + 1) := by
  obtain ⟨h1, h2, h3, h4⟩ := h
  refine ⟨by simp [h1], by simp [h2], by simp [h3], fun j hj => ?_⟩
  rw [getD_snoc, getD_snoc, getD_snoc, h1, h2, h3]
  by_cases e : j < i
  · rw [if_pos e, if_pos e, if_pos e]; exact h4 j e
  · rw [if_neg e, if_neg e, if_neg e, if_pos (by omega), if_pos (by omega), if_pos (by omega)]
    exact ⟨rfl, rfl, rfl, hs⟩
def cdOf (n : Nat) : Int := if n = 0 then 2 else 0
def mOf (D : List Sd) (m : Nat) : List Sd := if D.length = 0 then [] else (List.range m).map (encS D)
theorem encX {W : World} (u : Value) (D : List Sd) (m : Nat) {B : Nat × TypeId} (h : RdR W B u D) (hE : D.length = 0 ∨ Even D 20) (hm : m ≤ 16) :
    Calls Try.prog 11 #[u, .int .i64 (m : Int)] W fun e w' => ∃ a n c, e = .returned (.tuple #[.slice a n c, .int .i64 (cdOf D.length)]) ∧ RdR w' (w'.heap.size, 5) (.slice a n c) (mOf D m) ∧ Below W.heap.size W w' := by
  have hl : D.length ≤ 32 := by
    rcases hE with h0 | h0
    · omega
    · exact h0.hi
  refine (enc11 u D (m : Int) h (by omega) (fun i hi => ?_)).mono ?_
  · rcases hE with h0 | h0
    · omega
    · rw [h0.row i hi]; decide
  · rintro e w' ⟨a, n, c, z, rfl, hr, hb⟩
    refine ⟨a, n, c, ?_, ?_, hb⟩
    · rw [hr.1]
      congr 4
      rcases hE with h0 | h0
      · unfold encE cdOf
        rw [if_pos (.inl (by omega)), if_pos h0]
      · rw [encE_even h0 hm, cdOf, if_neg (by have := h0.lo; omega)]
    · rcases hE with h0 | h0
      · have h2 : encE D (m : Int) = 2 := by unfold encE; rw [if_pos (.inl (by omega))]
        rw [mOf, if_pos h0, hr.2.1 (by rw [hr.1, h2]; decide)]
        exact (OwnR.nil w' (w'.heap.size, 5) 0).rd
      · have h2 := hr.2.2 (by rw [hr.1]; exact encE_even h0 hm)
        rw [Int.toNat_natCast] at h2
        rw [mOf, if_neg (by have := h0.lo; omega)]
        exact h2
theorem Trio.even {D E F : List Sd} {n : Nat} (h : Trio D E F n) (h0 : n ≠ 0) (h8 : n ≤ 8) : Even D 20 ∧ Even E 20 ∧ Even F 20 := by
  obtain ⟨h1, h2, h3, h4⟩ := h
  exact ⟨⟨by omega, by omega, fun i hi => (h4 i (by omega)).2.2.2.1, fun i hi => (h4 i (by omega)).1⟩, ⟨by omega, by omega, fun i hi => (h4 i (by omega)).2.2.2.2.1, fun i hi => (h4 i (by omega)).2.1⟩, ⟨by omega, by omega, fun i hi => (h4 i (by omega)).2.2.2.2.2.1, fun i hi => (h4 i (by omega)).2.2.1⟩⟩
theorem mOf_len (D : List Sd) (m : Nat) : (mOf D m).length = if D.length = 0 then 0 else m := by
  unfold mOf
  split <;> simp
theorem mOf_get {D : List Sd} {m k : Nat} (h0 : D.length ≠ 0) (hk : k < m) : (mOf D m).getD k none = encS D k := by
  rw [mOf, if_neg h0]
  simp [List.getD, List.getElem?_range hk]
/-- What the three parities say. -/
theorem Trio.lin {D E F : List Sd} {n m : Nat} (h : Trio D E F n) (h8 : n ≤ 8) {k : Nat} (hk : k < (mOf D m).length) :
    (sl ((mOf D m).getD k none)).length = 20 ∧ (sl ((mOf E m).getD k none)).length = 20 ∧ (sl ((mOf F m).getD k none)).length = 20 ∧ ∀ b, b < 20 → (sl ((mOf F m).getD k none)).getD b 0 = (sl ((mOf D m).getD k none)).getD b 0 + (sl ((mOf E m).getD k none)).getD b 0 := by
  rw [mOf_len] at hk
  by_cases h0 : n = 0
  · rw [h.ld, if_pos h0] at hk; omega
  · obtain ⟨hD, hE, hF⟩ := h.even h0 h8
    rw [if_neg (by rw [h.ld]; exact h0)] at hk
    rw [mOf_get (by rw [h.ld]; exact h0) hk, mOf_get (by rw [h.le]; exact h0) hk, mOf_get (by rw [h.lf]; exact h0) hk]
    refine ⟨encS_len hD k, encS_len hE k, encS_len hF k, fun b hb => enc_lin hD hE hF (by rw [h.le, h.ld]) (by rw [h.lf, h.ld]) (fun i hi b hb => ?_) k hb⟩
    exact (h.row i (by rw [← h.ld]; exact hi)).2.2.2.2.2.2 b hb
section
variable {w : World}
attribute [local go_sem] gi_xor
set_option maxHeartbeats 8000000 in
set_option maxRecDepth 100000 in
theorem linear8 (u v : Value) (A C : List Sd) (xn : Nat) (hu : ShV w u A) (hv : ShV w v C) (hx : xn ≤ 255) : Calls Try.prog 8 #[u, v, .int .u8 (xn : Int)] w fun e w' => e = .returned (.bool true) ∧ Below w.heap.size w w' := by
  have HU := Hid.mk hu.rd
  have HV := Hid.mk hv.rd
  obtain ⟨ua, uc, rfl, hu1, hu2, _⟩ := hu.rd.shape
  obtain ⟨va, vc, rfl, hv1, hv2, _⟩ := hv.rd.shape
  obtain ⟨na, Hna⟩ : ∃ n, Hid (A.length = n) := ⟨_, ⟨rfl⟩⟩
  obtain ⟨nc, Hnc⟩ : ∃ n, Hid (C.length = n) := ⟨_, ⟨rfl⟩⟩
  rw [Hna.out] at HU hu1 ⊢
  rw [Hnc.out] at HV hv1 ⊢
  clear hu hv
  have huc : (uc : Int) ≤ 9223372036854775807 := by unfold maxLen at hu2; omega
  have hvc : (vc : Int) ≤ 9223372036854775807 := by unfold maxLen at hv2; omega
  obtain ⟨n, Hn⟩ : ∃ n : Nat, n ≤ na ∧ n ≤ nc ∧ n ≤ 8 ∧ min (min (na : Int) (nc : Int)) 8 = (n : Int) := ⟨min (min na nc) 8, by omega, by omega, by omega, by omega⟩
  obtain ⟨hnA, hnC, hn8, hmin⟩ := Hn
  obtain ⟨m, Hm⟩ : ∃ m, Hid (xn % 7 = m) := ⟨_, ⟨rfl⟩⟩
  have hm : m ≤ 6 := by rw [← Hm.out]; omega
  have hrem : Int.tmod (xn : Int) 7 = (m : Int) := by rw [← Hm.out]; exact tmod_nat3 xn 7
  have HE8 := Hid.mk (OwnR.nil w (0, 5) w.heap.size)
  have HB0 := Hid.mk (Below.refl w.heap.size w)
  go_enter Try.func8, Try.ntmps8
  go_upto_region 4 with fail
  go_loopg [8, 9, 10, 11, 12, 13, 14, 15, 16, 17] n (fun gg s8 s9 s10 s11 s12 s13 s14 s15 s16 s17 wr => ∃ (i : Nat) (D E F : List Sd), i ≤ n ∧ n - i ≤ gg ∧ s11 = .int .i64 (i : Int) ∧ Hid (Trio D E F i) ∧ Hid (OwnR wr (0, 5) w.heap.size s8 D ∧ OwnR wr (0, 5) w.heap.size s9 E ∧ OwnR wr (0, 5) w.heap.size s10 F ∧ Apt s8 s9 ∧ Apt s8 s10 ∧ Apt s9 s10) ∧ Hid (Below w.heap.size w wr))
  case atStart => exact ⟨0, [], [], [], by omega, by omega, rfl, ⟨⟨rfl, rfl, rfl, fun j hj => by omega⟩⟩, ⟨HE8.out, HE8.out, HE8.out, apt_nil _, apt_nil _, apt_nil _⟩, HB0⟩
  case round =>
    clear HE8 HB0
    obtain ⟨i, D, E, F, hi, hgg, rfl, HT, HO, HB⟩ := hrel
    rename World => wo
    by_cases hlt : i < n
    · have hltz : (i : Int) < (n : Int) := by omega
      have HG0 := Hid.mk (ownG_nil wo wo.heap.size)
      have HBo := Hid.mk (Below.refl wo.heap.size wo)
      have HS0 : Hid (Sum3 [] [] [] 0) := ⟨rfl, rfl, rfl, fun b hb => by omega⟩
      have hiA : i < A.length := by rw [Hna.out]; omega
      have hiC : i < C.length := by rw [Hnc.out]; omega
      go_upto_region 8 with fail
      go_loopg [12, 13, 14, 15, 16, 17] 20 (fun gg s12 s13 s14 s15 s16 s17 wr => ∃ (j : Nat) (p q r : List G), j ≤ 20 ∧ 20 - j ≤ gg ∧ s15 = .int .i64 (j : Int) ∧ Hid (Sum3 p q r j) ∧ Hid (OwnG wr wo.heap.size s12 p ∧ OwnG wr wo.heap.size s13 q ∧ OwnG wr wo.heap.size s14 r ∧ Apt s12 s13 ∧ Apt s12 s14 ∧ Apt s13 s14) ∧ Hid (Below wo.heap.size wo wr))
      case atStart => exact ⟨0, [], [], [], by omega, by omega, rfl, HS0, ⟨HG0.out, HG0.out, HG0.out, apt_nil _, apt_nil _, apt_nil _⟩, HBo⟩
      case round =>
        clear HG0 HBo HS0
        obtain ⟨j, p, q, r, hj, hgj, rfl, HS, HP, HBj⟩ := hrel
        rename World => wj
        by_cases hj20 : j < 20
        · have hj20z : (j : Int) < 20 := by omega
          have HB0 : Hid (Below w.heap.size w wj) := ⟨HB.out.trans (HBj.out.mono HB.out.size)⟩
          obtain ⟨b1, o1, cap1, e1, _, hc1⟩ := (HU.out.below HB0.out).at hiA
          rw [Hna.out] at e1
          simp only [Value.slice.injEq] at e1
          obtain ⟨rfl, -, rfl⟩ := e1
          obtain ⟨sa1, sc1, c1, _, _, _, hs1⟩ := hc1 i hiA
          obtain ⟨b2, o2, cap2, e2, _, hc2⟩ := (HV.out.below HB0.out).at hiC
          rw [Hnc.out] at e2
          simp only [Value.slice.injEq] at e2
          obtain ⟨rfl, -, rfl⟩ := e2
          obtain ⟨sa2, sc2, c2, _, _, _, hs2⟩ := hc2 i hiC
          have hX : ((∃ (X : G) (b3 o3 : Nat) (z : Nat), sa1 = some ⟨b3, o3, none⟩ ∧ (sl (A.getD i none)).length = z ∧ j < z ∧ wj.cell? ⟨b3, o3 + j, none⟩ = some (.int .u8 (gi X))) ∨ ∃ z, (sl (A.getD i none)).length = z ∧ z ≤ j) := by
            by_cases hA : j < (sl (A.getD i none)).length
            · obtain ⟨b3, o3, cap3, e3, _, hd3⟩ := hs1.rd.at hA
              simp only [Value.slice.injEq] at e3
              exact .inl ⟨_, b3, o3, _, e3.1, rfl, hA, hd3 j hA⟩
            · exact .inr ⟨_, rfl, by omega⟩
          have hY : ((∃ (X : G) (b3 o3 : Nat) (z : Nat), sa2 = some ⟨b3, o3, none⟩ ∧ (sl (C.getD i none)).length = z ∧ j < z ∧ wj.cell? ⟨b3, o3 + j, none⟩ = some (.int .u8 (gi X))) ∨ ∃ z, (sl (C.getD i none)).length = z ∧ z ≤ j) := by
            by_cases hA : j < (sl (C.getD i none)).length
            · obtain ⟨b3, o3, cap3, e3, _, hd3⟩ := hs2.rd.at hA
              simp only [Value.slice.injEq] at e3
              exact .inl ⟨_, b3, o3, _, e3.1, rfl, hA, hd3 j hA⟩
            · exact .inr ⟨_, rfl, by omega⟩
          clear hc1 hc2 hs1 hs2
          obtain ⟨hp1, hp2, hp3, ha12, ha13, ha23⟩ := HP.out
          have H1 := Hid.mk hp1
          have H2 := Hid.mk hp2
          have H3 := Hid.mk hp3
          have A12 := Hid.mk ha12
          have A13 := Hid.mk ha13
          have A23 := Hid.mk ha23
          have hb1 := HBj.out.size
          have HLn : Hid (p.length ≤ 1000000000000 ∧ q.length ≤ 1000000000000 ∧ r.length ≤ 1000000000000) := ⟨by obtain ⟨h1, h2, h3, _⟩ := HS.out; omega⟩
          clear HP hp1 hp2 hp3 ha12 ha13 ha23
          rcases hX with ⟨X, b3, o3, z3, rfl, Hz3, hz3, cx⟩ | ⟨z3, Hz3, hz3⟩ <;> rcases hY with ⟨Y, b4, o4, z4, rfl, Hz4, hz4, cy⟩ | ⟨z4, Hz4, hz4⟩
          all_goals
            rw [Hz3] at c1
            rw [Hz4] at c2
            replace Hz3 := Hid.mk Hz3
            replace Hz4 := Hid.mk Hz4
            go_upto_region 15 with fail
            try (obtain ⟨Y, HY⟩ : ∃ X : G, Value.int .u8 0 = Value.int .u8 (gi X) := ⟨0, rfl⟩; rw [HY]; replace HY := Hid.mk HY)
            clear c1 c2
            go_upto_region 16 with (refine wp_appG1 rfl (.tmp 69) (.tmp 71) rfl rfl H1.out rfl HLn.out.1 hb1 ?_; intro v1 w1 hO1 hG1 hV1)
            have k2 := A12.out.symm.grown H2.out hG1 hV1
            have k3 := A13.out.symm.grown H3.out hG1 hV1
            have HB1 : Hid (Below wo.heap.size wo w1) := ⟨HBj.out.trans (hG1.below HBj.out.size (fun x hx => (H1.out.lt x hx).1))⟩
            have K1 := Hid.mk hO1
            have K2 := Hid.mk k2
            have K3 := Hid.mk k3
            have hb2 := HB1.out.size
            clear hO1 hG1 hV1 k2 k3
            go_upto_region 17 with (refine wp_appG1 rfl (.tmp 73) (.tmp 75) rfl rfl K2.out.1 rfl HLn.out.2.1 hb2 ?_; intro v2 w2 hO2 hG2 hV2)
            have m1 := K2.out.2.symm.grown K1.out hG2 hV2
            have m3 := A23.out.symm.grown K3.out.1 hG2 hV2
            have HB2 : Hid (Below wo.heap.size wo w2) := ⟨HB1.out.trans (hG2.below HB1.out.size (fun x hx => (K2.out.1.lt x hx).1))⟩
            have M1 := Hid.mk m1
            have M2 := Hid.mk hO2
            have M3 := Hid.mk m3
            have hb3 := HB2.out.size
            clear hO2 hG2 hV2 m1 m3
            go_wp2_with (refine wp_appG1 rfl (.tmp 77) (.tmp 81) rfl rfl M3.out.1 rfl HLn.out.2.2 hb3 ?_; intro v3 w3 hO3 hG3 hV3)
            have n1 := K3.out.2.symm.grown M1.out.1 hG3 hV3
            have n2 := M3.out.2.symm.grown M2.out hG3 hV3
            have HB3 : Hid (Below wo.heap.size wo w3) := ⟨HB2.out.trans (hG3.below HB2.out.size (fun x hx => (M3.out.1.lt x hx).1))⟩
            have HF : Hid (OwnG w3 wo.heap.size v1 _ ∧ OwnG w3 wo.heap.size v2 _ ∧ OwnG w3 wo.heap.size v3 _ ∧ Apt v1 v2 ∧ Apt v1 v3 ∧ Apt v2 v3) := ⟨n1.1, n2.1, hO3, M1.out.2, n1.2, n2.2⟩
            clear hO3 hG3 hV3 n1 n2
            go_roundg (20 - (j + 1))
            case measure => omega
            case rel => exact ⟨j + 1, _, _, _, by omega, by omega, by go_num, ⟨HS.out.more _ _⟩, HF, HB3⟩
        · obtain rfl : j = 20 := by omega
          obtain ⟨hp1, hp2, hp3, -, -, -⟩ := HP.out
          obtain ⟨l1, l2, l3, -⟩ := HS.out
          have R1 : Hid (RdS wj (0, 5) u12 (some p)) := ⟨hp1.sd rfl (ownG_some hp1 (by omega))⟩
          have R2 : Hid (RdS wj (0, 5) u13 (some q)) := ⟨hp2.sd rfl (ownG_some hp2 (by omega))⟩
          have R3 : Hid (RdS wj (0, 5) u14 (some r)) := ⟨hp3.sd rfl (ownG_some hp3 (by omega))⟩
          obtain ⟨a1, n1, c1, e1, -⟩ := R1.out.sh
          obtain ⟨a2, n2, c2, e2, -⟩ := R2.out.sh
          obtain ⟨a3, n3, c3, e3, -⟩ := R3.out.sh
          subst e1 e2 e3
          obtain ⟨ho1, ho2, ho3, ha12, ha13, ha23⟩ := HO.out
          have O1 : Hid (OwnR wj (0, 5) w.heap.size u8 D) := ⟨ho1.below HBj.out⟩
          have O2 : Hid (OwnR wj (0, 5) w.heap.size u9 E) := ⟨ho2.below HBj.out⟩
          have O3 : Hid (OwnR wj (0, 5) w.heap.size u10 F) := ⟨ho3.below HBj.out⟩
          have A12 := Hid.mk ha12
          have A13 := Hid.mk ha13
          have A23 := Hid.mk ha23
          have HB0 : Hid (Below w.heap.size w wj) := ⟨HB.out.trans (HBj.out.mono HB.out.size)⟩
          have hb1 := HB0.out.size
          have HLn : Hid (D.length ≤ 1000000000000 ∧ E.length ≤ 1000000000000 ∧ F.length ≤ 1000000000000) := ⟨by have h1 := HT.out.ld; have h2 := HT.out.le; have h3 := HT.out.lf; omega⟩
          clear HP hp1 hp2 hp3 l1 l2 l3 ho1 ho2 ho3 ha12 ha13 ha23
          go_upto_region 19 with (refine wp_appR1 rfl (.tmp 83) (.tmp 85) rfl rfl O1.out (Nat.zero_le _) (show (5 : TypeId) ≠ 33 by decide) R1.out rfl HLn.out.1 hb1 ?_; intro v1 w1 hO1 hG1 hV1)
          have hin1 := O1.out.inn (Nat.zero_le _) (show (5 : TypeId) ≠ 33 by decide)
          have K1 := Hid.mk hO1
          have K2 := Hid.mk (A12.out.symm.grownR O2.out hG1 hin1 hV1)
          have K3 := Hid.mk (A13.out.symm.grownR O3.out hG1 hin1 hV1)
          have R2' := Hid.mk (R2.out.far hG1 hin1)
          have R3' := Hid.mk (R3.out.far hG1 hin1)
          have HB1 : Hid (Below w.heap.size w w1) := ⟨HB0.out.trans (hG1.below HB0.out.size (fun x hx => (O1.out.lt x hx).1))⟩
          have hb2 := HB1.out.size
          clear hO1 hG1 hV1 hin1
          go_upto_region 20 with (refine wp_appR1 rfl (.tmp 87) (.tmp 89) rfl rfl K2.out.1 (Nat.zero_le _) (show (5 : TypeId) ≠ 33 by decide) R2'.out rfl HLn.out.2.1 hb2 ?_; intro v2 w2 hO2 hG2 hV2)
          have hin2 := K2.out.1.inn (Nat.zero_le _) (show (5 : TypeId) ≠ 33 by decide)
          have M1 := Hid.mk (K2.out.2.symm.grownR K1.out hG2 hin2 hV2)
          have M2 := Hid.mk hO2
          have M3 := Hid.mk (A23.out.symm.grownR K3.out.1 hG2 hin2 hV2)
          have R3'' := Hid.mk (R3'.out.far hG2 hin2)
          have HB2 : Hid (Below w.heap.size w w2) := ⟨HB1.out.trans (hG2.below HB1.out.size (fun x hx => (K2.out.1.lt x hx).1))⟩
          have hb3 := HB2.out.size
          clear hO2 hG2 hV2 hin2
          go_wp2_with (refine wp_appR1 rfl (.tmp 91) (.tmp 93) rfl rfl M3.out.1 (Nat.zero_le _) (show (5 : TypeId) ≠ 33 by decide) R3''.out rfl HLn.out.2.2 hb3 ?_; intro v3 w3 hO3 hG3 hV3)
          have hin3 := M3.out.1.inn (Nat.zero_le _) (show (5 : TypeId) ≠ 33 by decide)
          have n1' := K3.out.2.symm.grownR M1.out.1 hG3 hin3 hV3
          have n2' := M3.out.2.symm.grownR M2.out hG3 hin3 hV3
          have HB3 : Hid (Below w.heap.size w w3) := ⟨HB2.out.trans (hG3.below HB2.out.size (fun x hx => (M3.out.1.lt x hx).1))⟩
          have HF : Hid (OwnR w3 (0, 5) w.heap.size v1 (D ++ [some p]) ∧ OwnR w3 (0, 5) w.heap.size v2 (E ++ [some q]) ∧ OwnR w3 (0, 5) w.heap.size v3 (F ++ [some r]) ∧ Apt v1 v2 ∧ Apt v1 v3 ∧ Apt v2 v3) := ⟨n1'.1, n2'.1, hO3, M1.out.2, n1'.2, n2'.2⟩
          have HT' : Hid (Trio (D ++ [some p]) (E ++ [some q]) (F ++ [some r]) (i + 1)) := ⟨HT.out.more HS.out⟩
          clear hO3 hG3 hV3 hin3 n1' n2'
          go_roundg (n - (i + 1))
          case measure => omega
          case rel => exact ⟨i + 1, _, _, _, by omega, by omega, by go_num, HT', HF, HB3⟩
    · obtain rfl : i = n := by omega
      obtain ⟨ho1, ho2, ho3, -, -, -⟩ := HO.out
      have hev : i = 0 ∨ (Even D 20 ∧ Even E 20 ∧ Even F 20) := by
        by_cases h0 : i = 0
        · exact .inl h0
        · exact .inr (HT.out.even h0 hn8)
      have t1 := encX (W := wo) u8 D m ho1.rd (hev.imp (fun h => by rw [HT.out.ld]; exact h) (fun h => h.1)) (by omega)
      have T2 : Hid (∀ W, Below wo.heap.size wo W → Calls Try.prog 11 #[u9, .int .i64 (m : Int)] W fun e w' => ∃ a n c, e = .returned (.tuple #[.slice a n c, .int .i64 (cdOf i)]) ∧ RdR w' (w'.heap.size, 5) (.slice a n c) (mOf E m) ∧ Below W.heap.size W w') := ⟨fun W hW => by
        have := encX (W := W) u9 E m (ho2.below hW).rd (hev.imp (fun h => by rw [HT.out.le]; exact h) (fun h => h.2.1)) (by omega)
        rwa [HT.out.le] at this⟩
      have T3 : Hid (∀ W, Below wo.heap.size wo W → Calls Try.prog 11 #[u10, .int .i64 (m : Int)] W fun e w' => ∃ a n c, e = .returned (.tuple #[.slice a n c, .int .i64 (cdOf i)]) ∧ RdR w' (w'.heap.size, 5) (.slice a n c) (mOf F m) ∧ Below W.heap.size W w') := ⟨fun W hW => by
        have := encX (W := W) u10 F m (ho3.below hW).rd (hev.imp (fun h => by rw [HT.out.lf]; exact h) (fun h => h.2.2)) (by omega)
        rwa [HT.out.lf] at this⟩
      rw [HT.out.ld] at t1
      have HLin : Hid (∀ k, k < (mOf D m).length → (sl ((mOf D m).getD k none)).length = 20 ∧ (sl ((mOf E m).getD k none)).length = 20 ∧ (sl ((mOf F m).getD k none)).length = 20 ∧ ∀ b, b < 20 → (sl ((mOf F m).getD k none)).getD b 0 = (sl ((mOf D m).getD k none)).getD b 0 + (sl ((mOf E m).getD k none)).getD b 0) := ⟨fun k hk => HT.out.lin hn8 hk⟩
      obtain ⟨l, Hl⟩ : ∃ l, Hid ((mOf D m).length = l ∧ (mOf E m).length = l ∧ (mOf F m).length = l) := ⟨_, ⟨rfl, by rw [mOf_len, mOf_len, HT.out.ld, HT.out.le], by rw [mOf_len, mOf_len, HT.out.ld, HT.out.lf]⟩⟩
      have hl6 : l ≤ 6 := by
        rw [← Hl.out.1, mOf_len]
        split <;> omega
      have hcd : (cdOf i = 2 ∧ i = 0) ∨ (cdOf i = 0 ∧ 1 ≤ i) := by
        unfold cdOf
        by_cases h0 : i = 0
        · exact .inl ⟨if_pos h0, h0⟩
        · exact .inr ⟨if_neg h0, by omega⟩
      generalize cdOf i = cd at t1 T2 T3 hcd
      generalize mOf D m = MD at t1 HLin Hl
      generalize mOf E m = ME at T2 HLin Hl
      generalize mOf F m = MF at T3 HLin Hl
      have HCD := Hid.mk hcd
      clear ho1 ho2 ho3 hev HT HO hcd
      go_wp2_with fail
      refine t1.mono ?_
      rintro e w1 ⟨a1, n1, c1, rfl, hr1, hb1⟩
      obtain ⟨_, _, e1, hc1, hm1, _⟩ := hr1.shape
      simp only [Value.slice.injEq] at e1
      obtain ⟨rfl, rfl, rfl⟩ := e1
      rw [Hl.out.1] at hr1 hc1 ⊢
      have R1 := Hid.mk hr1
      have B1 := Hid.mk hb1
      clear t1 hr1 hb1
      go_wp2_with fail
      refine (T2.out w1 B1.out).mono ?_
      rintro e w2 ⟨a2, n2, c2, rfl, hr2, hb2⟩
      obtain ⟨_, _, e1, hc2, hm2, _⟩ := hr2.shape
      simp only [Value.slice.injEq] at e1
      obtain ⟨rfl, rfl, rfl⟩ := e1
      rw [Hl.out.2.1] at hr2 hc2 ⊢
      have R2 := Hid.mk hr2
      have B2 := Hid.mk hb2
      have B02 : Hid (Below wo.heap.size wo w2) := ⟨B1.out.trans (hb2.mono B1.out.size)⟩
      clear hr2 hb2
      go_wp2_with fail
      refine (T3.out w2 B02.out).mono ?_
      rintro e w3 ⟨a3, n3, c3, rfl, hr3, hb3⟩
      obtain ⟨_, _, e1, hc3, hm3, _⟩ := hr3.shape
      simp only [Value.slice.injEq] at e1
      obtain ⟨rfl, rfl, rfl⟩ := e1
      rw [Hl.out.2.2] at hr3 hc3 ⊢
      have R3 : Hid (RdR w3 (w3.heap.size, 5) (.slice a3 l c3) MF) := ⟨hr3⟩
      have R2' : Hid (RdR w3 (w2.heap.size, 5) (.slice a2 l c2) ME) := ⟨R2.out.below hb3⟩
      have R1' : Hid (RdR w3 (w1.heap.size, 5) (.slice a1 l c1) MD) := ⟨(R1.out.below B2.out).below hb3⟩
      have B3 : Hid (Below w.heap.size w w3) := ⟨HB.out.trans ((B02.out.trans (hb3.mono B02.out.size)).mono HB.out.size)⟩
      clear hr3 hb3 T2 T3 R1 R2 B1 B2 B02
      have hz1 : (c1 : Int) ≤ 9223372036854775807 := by unfold maxLen at hm1; omega
      have hz2 : (c2 : Int) ≤ 9223372036854775807 := by unfold maxLen at hm2; omega
      have hz3 : (c3 : Int) ≤ 9223372036854775807 := by unfold maxLen at hm3; omega
      rcases HCD.out with ⟨rfl, h0⟩ | ⟨rfl, h1⟩
      · have hi0 : (i : Int) = 0 := by omega
        have hi0' : ¬ ((i : Int) > 0) := by omega
        go_upto_region 28 with fail
        go_loopg [25, 26] l (fun gg s25 s26 wr => ∃ k : Nat, k ≤ l ∧ l - k ≤ gg ∧ s25 = .int .i64 (k : Int) ∧ Hid (Below w3.heap.size w3 wr))
        case atStart => exact ⟨0, by omega, by omega, rfl, ⟨Below.refl _ _⟩⟩
        case round =>
          obtain ⟨k, hk, hgk, rfl, HBk⟩ := hrel
          rename World => wk
          by_cases hkl : k < l
          · have hklz : (k : Int) < (l : Int) := by omega
            obtain ⟨d1, d2, d3, dlin⟩ := HLin.out k (by rw [Hl.out.1]; exact hkl)
            obtain ⟨b1, o1, cap1, e1, _, f1⟩ := (R1'.out.below HBk.out).at (i := k) (by rw [Hl.out.1]; exact hkl)
            simp only [Value.slice.injEq] at e1
            obtain ⟨rfl, -, rfl⟩ := e1
            obtain ⟨sa1, sc1, g1, _, _, _, s1⟩ := f1 k (by rw [Hl.out.1]; exact hkl)
            obtain ⟨x1, y1, z1, e1', _, q1⟩ := s1.rd.at (i := 0) (by rw [d1]; decide)
            simp only [Value.slice.injEq] at e1'
            obtain ⟨rfl, -, rfl⟩ := e1'
            rw [d1] at g1 q1
            obtain ⟨b2, o2, cap2, e2, _, f2⟩ := (R2'.out.below HBk.out).at (i := k) (by rw [Hl.out.2.1]; exact hkl)
            simp only [Value.slice.injEq] at e2
            obtain ⟨rfl, -, rfl⟩ := e2
            obtain ⟨sa2, sc2, g2, _, _, _, s2⟩ := f2 k (by rw [Hl.out.2.1]; exact hkl)
            obtain ⟨x2, y2, z2, e2', _, q2⟩ := s2.rd.at (i := 0) (by rw [d2]; decide)
            simp only [Value.slice.injEq] at e2'
            obtain ⟨rfl, -, rfl⟩ := e2'
            rw [d2] at g2 q2
            obtain ⟨b3, o3, cap3, e3, _, f3⟩ := (R3.out.below HBk.out).at (i := k) (by rw [Hl.out.2.2]; exact hkl)
            simp only [Value.slice.injEq] at e3
            obtain ⟨rfl, -, rfl⟩ := e3
            obtain ⟨sa3, sc3, g3, _, _, _, s3⟩ := f3 k (by rw [Hl.out.2.2]; exact hkl)
            obtain ⟨x3, y3, z3, e3', _, q3⟩ := s3.rd.at (i := 0) (by rw [d3]; decide)
            simp only [Value.slice.injEq] at e3'
            obtain ⟨rfl, -, rfl⟩ := e3'
            rw [d3] at g3 q3
            obtain ⟨F1, HF1⟩ : ∃ f : Nat → G, ∀ j, (sl (MD.getD k none)).getD j 0 = f j := ⟨_, fun _ => rfl⟩
            obtain ⟨F2, HF2⟩ : ∃ f : Nat → G, ∀ j, (sl (ME.getD k none)).getD j 0 = f j := ⟨_, fun _ => rfl⟩
            have Q1 : Hid (∀ j, j < 20 → wk.cell? ⟨x1, y1 + j, none⟩ = some (.int .u8 (gi (F1 j)))) := ⟨fun j hj => by rw [← HF1 j]; exact q1 j hj⟩
            have Q2 : Hid (∀ j, j < 20 → wk.cell? ⟨x2, y2 + j, none⟩ = some (.int .u8 (gi (F2 j)))) := ⟨fun j hj => by rw [← HF2 j]; exact q2 j hj⟩
            have Q3 : Hid (∀ j, j < 20 → wk.cell? ⟨x3, y3 + j, none⟩ = some (.int .u8 (gi (F1 j + F2 j)))) := ⟨fun j hj => by rw [← HF1 j, ← HF2 j, ← dlin j hj]; exact q3 j hj⟩
            clear HF1 HF2 q1 q2 q3 dlin s1 s2 s3 f1 f2 f3 d1 d2 d3
            go_upto_region 33 with fail
            go_loopg [26] 20 (fun gg s26 wr => ∃ j : Nat, j ≤ 20 ∧ 20 - j ≤ gg ∧ s26 = .int .i64 (j : Int) ∧ Hid (Below wk.heap.size wk wr))
            case atStart => exact ⟨0, by omega, by omega, rfl, ⟨Below.refl _ _⟩⟩
            case round =>
              obtain ⟨j, hj, hgj, rfl, HBj⟩ := hrel
              rename World => wj
              by_cases hj20 : j < 20
              · have hj20z : (j : Int) < 20 := by omega
                have r1 := (HBj.out.cell (p := ⟨b1, o1 + k, none⟩) (World.block_lt_of_cell? _ _ g1)).trans g1
                have r2 := (HBj.out.cell (p := ⟨b2, o2 + k, none⟩) (World.block_lt_of_cell? _ _ g2)).trans g2
                have r3 := (HBj.out.cell (p := ⟨b3, o3 + k, none⟩) (World.block_lt_of_cell? _ _ g3)).trans g3
                have v1 := (HBj.out.cell (p := ⟨x1, y1 + j, none⟩) (World.block_lt_of_cell? _ _ (Q1.out j hj20))).trans (Q1.out j hj20)
                have v2 := (HBj.out.cell (p := ⟨x2, y2 + j, none⟩) (World.block_lt_of_cell? _ _ (Q2.out j hj20))).trans (Q2.out j hj20)
                have v3 := (HBj.out.cell (p := ⟨x3, y3 + j, none⟩) (World.block_lt_of_cell? _ _ (Q3.out j hj20))).trans (Q3.out j hj20)
                generalize F1 j = X at v1 v3
                generalize F2 j = Y at v2 v3
                have hxr := gi_xor X Y
                go_upto_region 35 with fail
                go_quiet (fail)
                go_wp2_with fail
                go_roundg (20 - (j + 1))
                case measure => omega
                case rel => exact ⟨j + 1, by omega, by omega, by go_num, ⟨below_drewN HBj.out nq⟩⟩
              · obtain rfl : j = 20 := by omega
                go_wp2_with fail
                go_roundg (l - (k + 1))
                case measure => omega
                case rel => exact ⟨k + 1, by omega, by omega, by go_num, ⟨HBk.out.trans (HBj.out.mono HBk.out.size)⟩⟩
          · obtain rfl : k = l := by omega
            have HBe : Hid (Below w.heap.size w wk) := ⟨B3.out.trans (HBk.out.mono B3.out.size)⟩
            go_wp2_with fail
            refine (live10 (w := wk)).mono ?_
            rintro e w5 ⟨rfl, hb5⟩
            have HB5 : Hid (Below w.heap.size w w5) := ⟨HBe.out.trans (hb5.mono HBe.out.size)⟩
            clear hb5
            go_wp2_with fail
            go_ret
            exact ⟨rfl, HB5.out⟩
      · have hi0' : ((0 : Int) < i) := by omega
        go_upto_region 28 with fail
        go_loopg [25, 26] l (fun gg s25 s26 wr => ∃ k : Nat, k ≤ l ∧ l - k ≤ gg ∧ s25 = .int .i64 (k : Int) ∧ Hid (Below w3.heap.size w3 wr))
        case atStart => exact ⟨0, by omega, by omega, rfl, ⟨Below.refl _ _⟩⟩
        case round =>
          obtain ⟨k, hk, hgk, rfl, HBk⟩ := hrel
          rename World => wk
          by_cases hkl : k < l
          · have hklz : (k : Int) < (l : Int) := by omega
            obtain ⟨d1, d2, d3, dlin⟩ := HLin.out k (by rw [Hl.out.1]; exact hkl)
            obtain ⟨b1, o1, cap1, e1, _, f1⟩ := (R1'.out.below HBk.out).at (i := k) (by rw [Hl.out.1]; exact hkl)
            simp only [Value.slice.injEq] at e1
            obtain ⟨rfl, -, rfl⟩ := e1
            obtain ⟨sa1, sc1, g1, _, _, _, s1⟩ := f1 k (by rw [Hl.out.1]; exact hkl)
            obtain ⟨x1, y1, z1, e1', _, q1⟩ := s1.rd.at (i := 0) (by rw [d1]; decide)
            simp only [Value.slice.injEq] at e1'
            obtain ⟨rfl, -, rfl⟩ := e1'
            rw [d1] at g1 q1
            obtain ⟨b2, o2, cap2, e2, _, f2⟩ := (R2'.out.below HBk.out).at (i := k) (by rw [Hl.out.2.1]; exact hkl)
            simp only [Value.slice.injEq] at e2
            obtain ⟨rfl, -, rfl⟩ := e2
            obtain ⟨sa2, sc2, g2, _, _, _, s2⟩ := f2 k (by rw [Hl.out.2.1]; exact hkl)
            obtain ⟨x2, y2, z2, e2', _, q2⟩ := s2.rd.at (i := 0) (by rw [d2]; decide)
            simp only [Value.slice.injEq] at e2'
            obtain ⟨rfl, -, rfl⟩ := e2'
            rw [d2] at g2 q2
            obtain ⟨b3, o3, cap3, e3, _, f3⟩ := (R3.out.below HBk.out).at (i := k) (by rw [Hl.out.2.2]; exact hkl)
            simp only [Value.slice.injEq] at e3
            obtain ⟨rfl, -, rfl⟩ := e3
            obtain ⟨sa3, sc3, g3, _, _, _, s3⟩ := f3 k (by rw [Hl.out.2.2]; exact hkl)
            obtain ⟨x3, y3, z3, e3', _, q3⟩ := s3.rd.at (i := 0) (by rw [d3]; decide)
            simp only [Value.slice.injEq] at e3'
            obtain ⟨rfl, -, rfl⟩ := e3'
            rw [d3] at g3 q3
            obtain ⟨F1, HF1⟩ : ∃ f : Nat → G, ∀ j, (sl (MD.getD k none)).getD j 0 = f j := ⟨_, fun _ => rfl⟩
            obtain ⟨F2, HF2⟩ : ∃ f : Nat → G, ∀ j, (sl (ME.getD k none)).getD j 0 = f j := ⟨_, fun _ => rfl⟩
            have Q1 : Hid (∀ j, j < 20 → wk.cell? ⟨x1, y1 + j, none⟩ = some (.int .u8 (gi (F1 j)))) := ⟨fun j hj => by rw [← HF1 j]; exact q1 j hj⟩
            have Q2 : Hid (∀ j, j < 20 → wk.cell? ⟨x2, y2 + j, none⟩ = some (.int .u8 (gi (F2 j)))) := ⟨fun j hj => by rw [← HF2 j]; exact q2 j hj⟩
            have Q3 : Hid (∀ j, j < 20 → wk.cell? ⟨x3, y3 + j, none⟩ = some (.int .u8 (gi (F1 j + F2 j)))) := ⟨fun j hj => by rw [← HF1 j, ← HF2 j, ← dlin j hj]; exact q3 j hj⟩
            clear HF1 HF2 q1 q2 q3 dlin s1 s2 s3 f1 f2 f3 d1 d2 d3
            go_upto_region 33 with fail
            go_loopg [26] 20 (fun gg s26 wr => ∃ j : Nat, j ≤ 20 ∧ 20 - j ≤ gg ∧ s26 = .int .i64 (j : Int) ∧ Hid (Below wk.heap.size wk wr))
            case atStart => exact ⟨0, by omega, by omega, rfl, ⟨Below.refl _ _⟩⟩
            case round =>
              obtain ⟨j, hj, hgj, rfl, HBj⟩ := hrel
              rename World => wj
              by_cases hj20 : j < 20
              · have hj20z : (j : Int) < 20 := by omega
                have r1 := (HBj.out.cell (p := ⟨b1, o1 + k, none⟩) (World.block_lt_of_cell? _ _ g1)).trans g1
                have r2 := (HBj.out.cell (p := ⟨b2, o2 + k, none⟩) (World.block_lt_of_cell? _ _ g2)).trans g2
                have r3 := (HBj.out.cell (p := ⟨b3, o3 + k, none⟩) (World.block_lt_of_cell? _ _ g3)).trans g3
                have v1 := (HBj.out.cell (p := ⟨x1, y1 + j, none⟩) (World.block_lt_of_cell? _ _ (Q1.out j hj20))).trans (Q1.out j hj20)
                have v2 := (HBj.out.cell (p := ⟨x2, y2 + j, none⟩) (World.block_lt_of_cell? _ _ (Q2.out j hj20))).trans (Q2.out j hj20)
                have v3 := (HBj.out.cell (p := ⟨x3, y3 + j, none⟩) (World.block_lt_of_cell? _ _ (Q3.out j hj20))).trans (Q3.out j hj20)
                generalize F1 j = X at v1 v3
                generalize F2 j = Y at v2 v3
                have hxr := gi_xor X Y
                go_upto_region 35 with fail
                go_quiet (fail)
                go_wp2_with fail
                go_roundg (20 - (j + 1))
                case measure => omega
                case rel => exact ⟨j + 1, by omega, by omega, by go_num, ⟨below_drewN HBj.out nq⟩⟩
              · obtain rfl : j = 20 := by omega
                go_wp2_with fail
                go_roundg (l - (k + 1))
                case measure => omega
                case rel => exact ⟨k + 1, by omega, by omega, by go_num, ⟨HBk.out.trans (HBj.out.mono HBk.out.size)⟩⟩
          · obtain rfl : k = l := by omega
            have HBe : Hid (Below w.heap.size w wk) := ⟨B3.out.trans (HBk.out.mono B3.out.size)⟩
            go_wp2_with fail
            refine (live10 (w := wk)).mono ?_
            rintro e w5 ⟨rfl, hb5⟩
            have HB5 : Hid (Below w.heap.size w w5) := ⟨HBe.out.trans (hb5.mono HBe.out.size)⟩
            clear hb5
            go_wp2_with fail
            go_ret
            exact ⟨rfl, HB5.out⟩
end
theorem walk_parityLinear (u : Value) (A : List Sd) (v : Value) (C : List Sd) (x : Int) (W : World) (hu : ShV W u A) (hv : ShV W v C) (w2 : (Lit.int .u8 x).wf = true) : Calls Try.prog 8 #[u, v, .int .u8 x] W fun e w' => e = .returned (.bool true) ∧ Below W.heap.size W w' := by
  obtain ⟨y, rfl⟩ := of_u8 w2
  exact linear8 u v A C y.1 hu hv (by have := y.2; omega)
end Go.Proofs.Ytbdmbhpmbklaiaa
