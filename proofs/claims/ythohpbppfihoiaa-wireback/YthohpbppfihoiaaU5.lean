/- Lists' bytes. -/
import Derived.Test.YthohpbppfihoiaaU4
namespace Go.Proofs.Ythohpbppfihoiaa
open Go.RowKit

def hB (h : Hd) : List Int := fB h.1 h.2.toNat
def qB (p : Pt) : List Int := p.1 ++ Oct.numB p.2.toNat
def HdB (h : Hd) : Prop := h.1.size ≤ 32 ∧ 0 ≤ h.2 ∧ h.2 ≤ 9007199254740991
def PtB (p : Pt) : Prop := p.1.length = 32 ∧ 0 ≤ p.2 ∧ p.2 ≤ 9007199254740991
/-- How many there are, and each one's bytes. -/
def lB {α : Type} (f : α → List Int) (L : List α) : List Int := Oct.numB L.length ++ L.flatMap f
theorem hB_len (h : Hd) (hh : HdB h) : (hB h).length ≤ 64 := by
  obtain ⟨h1, h2, h3⟩ := hh
  have a := Oct.numB_len8 h.1.size (by omega)
  have b := Oct.numB_len8 h.2.toNat (by omega)
  have c := strBs_len h.1
  unfold hB fB
  simp only [List.length_append]
  omega
theorem qB_len (p : Pt) (hh : PtB p) : (qB p).length ≤ 64 := by
  obtain ⟨h1, h2, h3⟩ := hh
  have b := Oct.numB_len8 p.2.toNat (by omega)
  unfold qB
  simp only [List.length_append]
  omega
theorem fm_len {α : Type} {f : α → List Int} : ∀ (L : List α), (∀ x ∈ L, (f x).length ≤ 64) → (L.flatMap f).length ≤ 64 * L.length
  | [], _ => by simp
  | x :: L, h => by
    have a := h x (by simp)
    have b := fm_len L (fun y hy => h y (by simp [hy]))
    simp only [List.flatMap_cons, List.length_append, List.length_cons]
    omega
section
variable {w : World}
set_option maxHeartbeats 4000000 in
set_option maxRecDepth 100000 in
theorem held24 (x : Hd) (hx : HdB x) :
    Calls Try.prog 24 #[.agg (he x).toArray] w fun e w' => ∃ v, e = .returned v ∧ OwnY w' w.heap.size v (hB x) ∧ Below w.heap.size w w' := by
  obtain ⟨s, y⟩ := x
  obtain ⟨h1, h2, h3⟩ := hx
  simp only at h1 h2 h3
  obtain ⟨n, rfl⟩ := Int.eq_ofNat_of_zero_le h2
  have hn : n ≤ 9007199254740991 := by omega
  have hX : hB (s, (n : Int)) = fB s n := by simp [hB]
  rw [hX]
  obtain ⟨q, Hq⟩ : ∃ q, Hid (w.heap.size = q) := ⟨_, ⟨rfl⟩⟩
  obtain ⟨A, HA⟩ : ∃ A, Hid ((he (s, (n : Int))).toArray = A) := ⟨_, ⟨rfl⟩⟩
  obtain ⟨w1, Hw1⟩ : ∃ x, Hid (w.alloc (.cells A 46) = x) := ⟨_, ⟨rfl⟩⟩
  have HB1 : Hid (Below w.heap.size w w1) := ⟨by rw [← Hw1.out]; exact (Below.refl _ w).alloc (Nat.le_refl _) _⟩
  have HX1 : Hid (w1.heap[q]? = some (.cells A 46 (0, 0))) := ⟨by rw [← Hw1.out, ← Hq.out]; exact heap_alloc_new w _⟩
  have c0 : w1.cell? ⟨q, 0, none⟩ = some (.string s) := by rw [cell_of_row _ _ _ _ _ _ HX1.out, ← HA.out]; rfl
  have c1 : w1.cell? ⟨q, 1, none⟩ = some (.int .i64 (n : Int)) := by rw [cell_of_row _ _ _ _ _ _ HX1.out, ← HA.out]; rfl
  rw [HA.out]
  clear hX h2 h3
  go_enter Try.func24, Try.ntmps24
  go_upto_region 1 with (refine wp_box rfl 46 (.tmp 0) rfl A rfl ?_; rw [Hw1.out, Hq.out])
  go_wp2_with fail
  refine (file22 s h1 n hn).mono ?_
  rintro e w2 ⟨v2, rfl, hO2, hB2⟩
  go_wp2_with fail
  go_ret
  exact ⟨_, rfl, Oct.OwnB.mono hO2 HB1.out.size, HB1.out.trans (hB2.mono HB1.out.size)⟩
theorem part26b (x : Pt) (hx : PtB x) : Calls Try.prog 26 #[.agg (pe x).toArray] w fun e w' => ∃ v, e = .returned v ∧ OwnY w' w.heap.size v (qB x) ∧ Below w.heap.size w w' :=
  part26 x hx.1 x.2.toNat (by have := hx.2.1; omega) (by have := hx.2.2; omega)
set_option maxHeartbeats 8000000 in
set_option maxRecDepth 100000 in
theorem list23 (v : Value) (L : List Hd) (hv : RdE he 2 h0 w v L) (hq : ∀ x ∈ L, HdB x) (hl : L.length ≤ 256) :
    Calls Try.prog 23 #[v, .func (.func 24) #[] #[]] w fun e w' => ∃ v, e = .returned v ∧ OwnY w' w.heap.size v (lB hB L) ∧ Below w.heap.size w w' := by
  have HV := Hid.mk hv
  have HQ := Hid.mk hq
  obtain ⟨va, vc, rfl, hnc, hcm, _⟩ := hv.shape
  obtain ⟨n, Hn⟩ : ∃ x, Hid (L.length = x) := ⟨_, ⟨rfl⟩⟩
  have hfl : Hid (∀ i, ((L.take i).flatMap hB).length ≤ 64 * 256) := ⟨fun i => by
    have := fm_len (L.take i) (fun x hx => hB_len x (hq x (List.mem_of_mem_take hx)))
    rw [List.length_take] at this
    omega⟩
  unfold lB
  rw [Hn.out] at HV hnc hl ⊢
  have hcx : vc ≤ 9223372036854775807 := hcm
  obtain ⟨X, HX⟩ : ∃ X, Hid (Oct.numB n = X) := ⟨_, ⟨rfl⟩⟩
  have HX8 : Hid (X.length ≤ 8) := ⟨by rw [← HX.out]; exact Oct.numB_len8 n (by omega)⟩
  have hb0 : Below w.heap.size w (w.alloc (.cells #[.int .i64 (n : Int)] 3)) := (Below.refl _ w).alloc (Nat.le_refl _) _
  have t0 := nums1 n (by omega) w.heap.size (heap_alloc_new w (.cells #[.int .i64 (n : Int)] 3))
  rw [HX.out] at t0 ⊢
  clear hv hq hl
  go_enter Try.func23, Try.ntmps23
  go_wp2_with fail
  refine t0.mono ?_
  rintro e wn ⟨vn, rfl, hOn, hBn⟩
  have HOn : Hid (OwnY wn w.heap.size vn X) := ⟨Oct.OwnB.mono hOn hb0.size⟩
  have HBn : Hid (Below w.heap.size w wn) := ⟨hb0.trans (hBn.mono hb0.size)⟩
  clear t0 hOn hBn hb0
  go_wp2_with fail
  go_loopg [5, 7, 14] n (fun gg s5 _s7 s14 wr => ∃ i : Nat, i ≤ n ∧ n - i ≤ gg ∧ s14 = .int .i64 (i : Int) ∧ Hid (OwnY wr w.heap.size s5 (X ++ (L.take i).flatMap hB)) ∧ Hid (Below w.heap.size w wr))
  case atStart => exact ⟨0, Nat.zero_le _, by omega, rfl, ⟨by simpa using HOn.out⟩, HBn⟩
  case round =>
    obtain ⟨i, hi, hgg, rfl, HO, HBl⟩ := hrel
    rename World => wo
    by_cases hlt : i < n
    · have hltz : (i : Int) < (n : Int) := by omega
      have hiL : i < L.length := by rw [Hn.out]; exact hlt
      have HRo : Hid (RdE he 2 h0 wo (.slice va n vc) L) := ⟨HV.out.far (Chg.ofBelow (X := []) HBl.out) (by simp)⟩
      obtain ⟨g, off, c', e, hat⟩ := HRo.out.at' i hiL
      rw [Hn.out] at e
      simp only [Value.slice.injEq] at e
      obtain ⟨rfl, -, rfl⟩ := e
      obtain ⟨x, Hx⟩ : ∃ x, Hid (L.getD i h0 = x) := ⟨_, ⟨rfl⟩⟩
      have Hlen : Hid ((he x).length = 2) := ⟨by rw [← Hx.out]; exact (HRo.out.each _ (getD_mem' hiL)).1⟩
      have Hone : Hid (∀ u ∈ he x, u.oneCell' = true) := ⟨by rw [← Hx.out]; exact (HRo.out.each _ (getD_mem' hiL)).2⟩
      have HQx : Hid (HdB x) := ⟨by rw [← Hx.out]; exact HQ.out _ (getD_mem' hiL)⟩
      rw [Hx.out] at hat
      have Hld : Hid ((Instr.loadAt 46 (.pointer (some ⟨g, off + i * 2, none⟩))).run Try.prog wo = .ok (.agg (he x).toArray) wo) := ⟨run_loadAt_mid wo g (off + i * 2) 46 (he x) _ (fun j v hv => by
        have hj : j < 2 := by have := (List.getElem?_eq_some_iff.1 hv).1; rw [Hlen.out] at this; exact this
        rw [hat j hj]; exact hv) Try.underlying46 rfl (by rw [Hlen.out]; exact info46)⟩
      have HAn : Hid ((L.take (i + 1)).flatMap hB = (L.take i).flatMap hB ++ hB x) := ⟨by
        rw [List.take_add_one, List.getElem?_eq_getElem hiL]
        have : L[i] = x := by rw [← Hx.out]; simp [List.getD, List.getElem?_eq_getElem hiL]
        simp only [Option.toList_some, List.flatMap_append, List.flatMap_cons, List.flatMap_nil, List.append_nil, this]⟩
      obtain ⟨A, HAa⟩ : ∃ A, Hid ((he x).toArray = A) := ⟨_, ⟨rfl⟩⟩
      have HAs : Hid (A.size = 2) := ⟨by rw [← HAa.out, List.size_toArray]; exact Hlen.out⟩
      rw [HAa.out] at Hld
      have t1 := fun W : World => held24 (w := W) x HQx.out
      rw [HAa.out] at t1
      have HLx : Hid ((hB x).length ≤ 64) := ⟨hB_len x HQx.out⟩
      obtain ⟨q, Hq⟩ : ∃ q, Hid (wo.heap.size = q) := ⟨_, ⟨rfl⟩⟩
      obtain ⟨w2, Hw2⟩ : ∃ x, Hid ((wo.alloc (.cells (he h0).toArray 46)).setRow q A = x) := ⟨_, ⟨rfl⟩⟩
      have HB2 : Hid (Below wo.heap.size wo w2) := ⟨by rw [← Hw2.out, ← Hq.out]; exact below_setRow ((Below.refl _ wo).alloc (Nat.le_refl _) _) (Nat.le_refl _) _⟩
      have HX2 : Hid (w2.heap[q]? = some (.cells A 46 (0, 0))) := ⟨by rw [← Hw2.out, ← Hq.out]; exact setRow_heap _ _ (he h0).toArray _ 46 (0, 0) (heap_alloc_new wo _)⟩
      have HIn : Hid ((Try.prog.info? 46).map (·.size) = some A.size) := ⟨by rw [HAs.out]; exact info46⟩
      have HA1 : Hid (A.all (·.oneCell') = true) := ⟨by rw [← HAa.out, List.all_toArray, List.all_eq_true]; exact Hone.out⟩
      obtain ⟨M, HM⟩ : ∃ M, Hid (X ++ (L.take i).flatMap hB = M) := ⟨_, ⟨rfl⟩⟩
      have HMl : Hid (M.length ≤ 20000) := ⟨by
        rw [← HM.out, List.length_append]
        have h1 := hfl.out i
        have h2 := HX8.out
        omega⟩
      rw [HM.out] at HO
      obtain ⟨a5, c5, e5, _⟩ := OwnY.shape HO.out
      subst e5
      clear hat
      go_wp2_with (first
        | (refine wp_loadX (cs := A) rfl (.tmp 16) rfl rfl Hld.out ?_)
        | (refine wp_newZ zero46 rfl rfl ?_; rw [Hq.out])
        | (refine wpList_store_row rfl 46 (.tmp 7) (.tmp 17) rfl q A rfl rfl 46 (he h0).toArray (by rw [← Hq.out]; exact heap_alloc_new wo _) HIn.out (by rw [HAs.out]; rfl) HA1.out ?_; rw [Hw2.out])
        | (refine wp_load rfl 46 (.tmp 7) rfl q rfl A 46 (0, 0) _ HX2.out Try.underlying46 rfl HIn.out ?_))
      refine (t1 w2).mono ?_
      rintro e w3 ⟨v3, rfl, hO3, hB3⟩
      have HB23 : Hid (Below wo.heap.size wo w3) := ⟨HB2.out.trans (hB3.mono HB2.out.size)⟩
      have HB3 : Hid (Below w.heap.size w w3) := ⟨HBl.out.trans (HB23.out.mono HBl.out.size)⟩
      have HO3 : Hid (OwnY w3 w.heap.size (.slice a5 M.length c5) M) := ⟨Oct.OwnB.below HO.out HB23.out⟩
      have HR3 : Hid (RdY w3 v3 (hB x)) := ⟨OwnY.rd hO3⟩
      clear t1 hB3 hO3
      go_wp2_with (at_builtin; refine wp_appY rfl (.tmp 18) (.tmp 21) rfl rfl HO3.out rfl HR3.out (by have h1 := HMl.out; have h2 := HLx.out; omega) HB3.out.size ?_; intro v5 w5 hO5 hC5 hw5)
      have HB5 : Hid (Below w.heap.size w w5) := ⟨HB3.out.trans (hC5.below HB3.out.size (own_geY HO3.out))⟩
      have HO5 : Hid (OwnY w5 w.heap.size v5 (X ++ (L.take (i + 1)).flatMap hB)) := ⟨by rw [HAn.out, ← List.append_assoc, HM.out]; exact hO5⟩
      clear hO5 hC5 hw5
      go_roundg (n - (i + 1))
      case measure => omega
      case rel => exact ⟨i + 1, by omega, by omega, by go_num, HO5, HB5⟩
    · obtain rfl : n = i := by omega
      have HT : Hid (L.take n = L) := ⟨List.take_of_length_le (by rw [Hn.out]; exact Nat.le_refl _)⟩
      rw [HT.out] at HO
      go_wp2_with fail
      go_ret
      exact ⟨_, rfl, HO.out, HBl.out⟩
set_option maxHeartbeats 8000000 in
set_option maxRecDepth 100000 in
theorem list25 (v : Value) (L : List Pt) (hv : RdE pe 33 p0 w v L) (hq : ∀ x ∈ L, PtB x) (hl : L.length ≤ 256) :
    Calls Try.prog 25 #[v, .func (.func 26) #[] #[]] w fun e w' => ∃ v, e = .returned v ∧ OwnY w' w.heap.size v (lB qB L) ∧ Below w.heap.size w w' := by
  have HV := Hid.mk hv
  have HQ := Hid.mk hq
  obtain ⟨va, vc, rfl, hnc, hcm, _⟩ := hv.shape
  obtain ⟨n, Hn⟩ : ∃ x, Hid (L.length = x) := ⟨_, ⟨rfl⟩⟩
  have hfl : Hid (∀ i, ((L.take i).flatMap qB).length ≤ 64 * 256) := ⟨fun i => by
    have := fm_len (L.take i) (fun x hx => qB_len x (hq x (List.mem_of_mem_take hx)))
    rw [List.length_take] at this
    omega⟩
  unfold lB
  rw [Hn.out] at HV hnc hl ⊢
  have hcx : vc ≤ 9223372036854775807 := hcm
  obtain ⟨X, HX⟩ : ∃ X, Hid (Oct.numB n = X) := ⟨_, ⟨rfl⟩⟩
  have HX8 : Hid (X.length ≤ 8) := ⟨by rw [← HX.out]; exact Oct.numB_len8 n (by omega)⟩
  have hb0 : Below w.heap.size w (w.alloc (.cells #[.int .i64 (n : Int)] 3)) := (Below.refl _ w).alloc (Nat.le_refl _) _
  have t0 := nums1 n (by omega) w.heap.size (heap_alloc_new w (.cells #[.int .i64 (n : Int)] 3))
  rw [HX.out] at t0 ⊢
  clear hv hq hl
  go_enter Try.func25, Try.ntmps25
  go_wp2_with fail
  refine t0.mono ?_
  rintro e wn ⟨vn, rfl, hOn, hBn⟩
  have HOn : Hid (OwnY wn w.heap.size vn X) := ⟨Oct.OwnB.mono hOn hb0.size⟩
  have HBn : Hid (Below w.heap.size w wn) := ⟨hb0.trans (hBn.mono hb0.size)⟩
  clear t0 hOn hBn hb0
  go_wp2_with fail
  go_loopg [5, 7, 14] n (fun gg s5 _s7 s14 wr => ∃ i : Nat, i ≤ n ∧ n - i ≤ gg ∧ s14 = .int .i64 (i : Int) ∧ Hid (OwnY wr w.heap.size s5 (X ++ (L.take i).flatMap qB)) ∧ Hid (Below w.heap.size w wr))
  case atStart => exact ⟨0, Nat.zero_le _, by omega, rfl, ⟨by simpa using HOn.out⟩, HBn⟩
  case round =>
    obtain ⟨i, hi, hgg, rfl, HO, HBl⟩ := hrel
    rename World => wo
    by_cases hlt : i < n
    · have hltz : (i : Int) < (n : Int) := by omega
      have hiL : i < L.length := by rw [Hn.out]; exact hlt
      have HRo : Hid (RdE pe 33 p0 wo (.slice va n vc) L) := ⟨HV.out.far (Chg.ofBelow (X := []) HBl.out) (by simp)⟩
      obtain ⟨g, off, c', e, hat⟩ := HRo.out.at' i hiL
      rw [Hn.out] at e
      simp only [Value.slice.injEq] at e
      obtain ⟨rfl, -, rfl⟩ := e
      obtain ⟨x, Hx⟩ : ∃ x, Hid (L.getD i p0 = x) := ⟨_, ⟨rfl⟩⟩
      have Hlen : Hid ((pe x).length = 33) := ⟨by rw [← Hx.out]; exact (HRo.out.each _ (getD_mem' hiL)).1⟩
      have Hone : Hid (∀ u ∈ pe x, u.oneCell' = true) := ⟨by rw [← Hx.out]; exact (HRo.out.each _ (getD_mem' hiL)).2⟩
      have HQx : Hid (PtB x) := ⟨by rw [← Hx.out]; exact HQ.out _ (getD_mem' hiL)⟩
      rw [Hx.out] at hat
      have Hld : Hid ((Instr.loadAt 49 (.pointer (some ⟨g, off + i * 33, none⟩))).run Try.prog wo = .ok (.agg (pe x).toArray) wo) := ⟨run_loadAt_mid wo g (off + i * 33) 49 (pe x) _ (fun j v hv => by
        have hj : j < 33 := by have := (List.getElem?_eq_some_iff.1 hv).1; rw [Hlen.out] at this; exact this
        rw [hat j hj]; exact hv) Try.underlying49 rfl (by rw [Hlen.out]; exact info49)⟩
      have HAn : Hid ((L.take (i + 1)).flatMap qB = (L.take i).flatMap qB ++ qB x) := ⟨by
        rw [List.take_add_one, List.getElem?_eq_getElem hiL]
        have : L[i] = x := by rw [← Hx.out]; simp [List.getD, List.getElem?_eq_getElem hiL]
        simp only [Option.toList_some, List.flatMap_append, List.flatMap_cons, List.flatMap_nil, List.append_nil, this]⟩
      obtain ⟨A, HAa⟩ : ∃ A, Hid ((pe x).toArray = A) := ⟨_, ⟨rfl⟩⟩
      have HAs : Hid (A.size = 33) := ⟨by rw [← HAa.out, List.size_toArray]; exact Hlen.out⟩
      rw [HAa.out] at Hld
      have t1 := fun W : World => part26b (w := W) x HQx.out
      rw [HAa.out] at t1
      have HLx : Hid ((qB x).length ≤ 64) := ⟨qB_len x HQx.out⟩
      obtain ⟨q, Hq⟩ : ∃ q, Hid (wo.heap.size = q) := ⟨_, ⟨rfl⟩⟩
      obtain ⟨w2, Hw2⟩ : ∃ x, Hid ((wo.alloc (.cells (pe pz).toArray 49)).setRow q A = x) := ⟨_, ⟨rfl⟩⟩
      have HB2 : Hid (Below wo.heap.size wo w2) := ⟨by rw [← Hw2.out, ← Hq.out]; exact below_setRow ((Below.refl _ wo).alloc (Nat.le_refl _) _) (Nat.le_refl _) _⟩
      have HX2 : Hid (w2.heap[q]? = some (.cells A 49 (0, 0))) := ⟨by rw [← Hw2.out, ← Hq.out]; exact setRow_heap _ _ (pe pz).toArray _ 49 (0, 0) (heap_alloc_new wo _)⟩
      have HIn : Hid ((Try.prog.info? 49).map (·.size) = some A.size) := ⟨by rw [HAs.out]; exact info49⟩
      have HA1 : Hid (A.all (·.oneCell') = true) := ⟨by rw [← HAa.out, List.all_toArray, List.all_eq_true]; exact Hone.out⟩
      obtain ⟨M, HM⟩ : ∃ M, Hid (X ++ (L.take i).flatMap qB = M) := ⟨_, ⟨rfl⟩⟩
      have HMl : Hid (M.length ≤ 20000) := ⟨by
        rw [← HM.out, List.length_append]
        have h1 := hfl.out i
        have h2 := HX8.out
        omega⟩
      rw [HM.out] at HO
      obtain ⟨a5, c5, e5, _⟩ := OwnY.shape HO.out
      subst e5
      clear hat
      go_wp2_with (first
        | (refine wp_loadX (cs := A) rfl (.tmp 16) rfl rfl Hld.out ?_)
        | (refine wp_newZ zero49 rfl rfl ?_; rw [Hq.out])
        | (refine wpList_store_row rfl 49 (.tmp 7) (.tmp 17) rfl q A rfl rfl 49 (pe pz).toArray (by rw [← Hq.out]; exact heap_alloc_new wo _) HIn.out (by rw [HAs.out]; rfl) HA1.out ?_; rw [Hw2.out])
        | (refine wp_load rfl 49 (.tmp 7) rfl q rfl A 49 (0, 0) _ HX2.out Try.underlying49 rfl HIn.out ?_))
      refine (t1 w2).mono ?_
      rintro e w3 ⟨v3, rfl, hO3, hB3⟩
      have HB23 : Hid (Below wo.heap.size wo w3) := ⟨HB2.out.trans (hB3.mono HB2.out.size)⟩
      have HB3 : Hid (Below w.heap.size w w3) := ⟨HBl.out.trans (HB23.out.mono HBl.out.size)⟩
      have HO3 : Hid (OwnY w3 w.heap.size (.slice a5 M.length c5) M) := ⟨Oct.OwnB.below HO.out HB23.out⟩
      have HR3 : Hid (RdY w3 v3 (qB x)) := ⟨OwnY.rd hO3⟩
      clear t1 hB3 hO3
      go_wp2_with (at_builtin; refine wp_appY rfl (.tmp 18) (.tmp 21) rfl rfl HO3.out rfl HR3.out (by have h1 := HMl.out; have h2 := HLx.out; omega) HB3.out.size ?_; intro v5 w5 hO5 hC5 hw5)
      have HB5 : Hid (Below w.heap.size w w5) := ⟨HB3.out.trans (hC5.below HB3.out.size (own_geY HO3.out))⟩
      have HO5 : Hid (OwnY w5 w.heap.size v5 (X ++ (L.take (i + 1)).flatMap qB)) := ⟨by rw [HAn.out, ← List.append_assoc, HM.out]; exact hO5⟩
      clear hO5 hC5 hw5
      go_roundg (n - (i + 1))
      case measure => omega
      case rel => exact ⟨i + 1, by omega, by omega, by go_num, HO5, HB5⟩
    · obtain rfl : n = i := by omega
      have HT : Hid (L.take n = L) := ⟨List.take_of_length_le (by rw [Hn.out]; exact Nat.le_refl _)⟩
      rw [HT.out] at HO
      go_wp2_with fail
      go_ret
      exact ⟨_, rfl, HO.out, HBl.out⟩
end
end Go.Proofs.Ythohpbppfihoiaa
