/- Rows' lengths: ContainsFunc, IndexFunc, checkRows. -/
import Derived.Test.YtbdmbhpmbklaiaaS7
namespace Go.Proofs.Ytbdmbhpmbklaiaa
open Go.RowKit Gf

theorem any_none {L : List Sd} {p : Sd → Bool} (h : ∀ i, i < L.length → p (L.getD i none) = false) : L.any p = false := by
  rw [List.any_eq_false]
  intro s hs
  obtain ⟨i, hi, rfl⟩ := List.mem_iff_getElem.1 hs
  have := h i hi
  rw [show L.getD i none = L[i] by simp [List.getD, List.getElem?_eq_getElem hi]] at this
  simp [this]
theorem any_some {L : List Sd} {p : Sd → Bool} {i : Nat} (hi : i < L.length) (h : p (L.getD i none) = true) : L.any p = true := by
  rw [List.any_eq_true]
  exact ⟨L[i], List.getElem_mem hi, by rw [show L.getD i none = L[i] by simp [List.getD, List.getElem?_eq_getElem hi]] at h; exact h⟩
def pLong (s : Sd) : Bool := decide (4096 < (sl s).length)
def pOther (m : Nat) (s : Sd) : Bool := decide ((sl s).length ≠ m)
def pLost (s : Sd) : Bool := s.isNone
section
variable {w : World}
theorem ret_bool {a b : Bool} (h : a = b) : Ending.returned (.bool a) = .returned (.bool b) := by rw [h]
theorem long35 (a : Option Addr) (n c : Nat) : Calls Try.prog 35 #[.slice a n c] w fun e w' => e = .returned (.bool (decide (4096 < n))) ∧ w = w' := by
  go_enter Try.func35, Try.ntmps35
  go_wp2_with fail
  go_ret
  exact ⟨ret_bool (decide_eq_decide.2 (by omega)), rfl⟩
theorem other36 (a : Option Addr) (n c q rb ro rn rc m : Nat) (a0 : Option Addr) (c0 : Nat) (h1 : w.cell? ⟨q, 0, none⟩ = some (.slice (some ⟨rb, ro, none⟩) rn rc)) (h2 : w.cell? ⟨rb, ro, none⟩ = some (.slice a0 m c0)) (h3 : 0 < rn) : Calls Try.prog 36 #[.slice a n c, .pointer (some ⟨q, 0, none⟩)] w fun e w' => e = .returned (.bool (decide (n ≠ m))) ∧ w = w' := by
  have h3z : (0 : Int) < (rn : Int) := by omega
  by_cases h : n = m
  · have hb : ((n : Int) != (m : Int)) = false := by simp [h]
    rw [decide_eq_false (fun h' => h' h)]
    clear h
    go_enter Try.func36, Try.ntmps36
    go_wp2_with fail
    go_ret
    exact ⟨rfl, rfl⟩
  · have hb : ((n : Int) != (m : Int)) = true := by simp; omega
    rw [decide_eq_true h]
    clear h
    go_enter Try.func36, Try.ntmps36
    go_wp2_with fail
    go_ret
    exact ⟨rfl, rfl⟩
set_option maxHeartbeats 4000000 in
set_option maxRecDepth 100000 in
theorem idx_long (v : Value) (L : List Sd) (p : Sd → Bool) {B : Nat × TypeId} (hv : RdR w B v L) (hl : L.length ≤ 1000000)
    (hp : ∀ i a c, i < L.length → (a = none ↔ L.getD i none = none) → Calls Try.prog 35 #[.slice a (sl (L.getD i none)).length c] w fun e w' => e = .returned (.bool (p (L.getD i none))) ∧ w = w') :
    Calls Try.prog 45 #[v, .func (.func 35) #[] #[]] w fun e w' => ∃ z : Int, e = .returned (.int .i64 z) ∧ ((z = -1 ∧ ∀ i, i < L.length → p (L.getD i none) = false) ∨ ∃ i : Nat, z = i ∧ i < L.length ∧ p (L.getD i none) = true ∧ ∀ j, j < i → p (L.getD j none) = false) ∧ w = w' := by
  obtain ⟨va, vc, rfl, h1, h2, _⟩ := hv.shape
  obtain ⟨n, Hn⟩ : ∃ n, Hid (L.length = n) := ⟨_, ⟨rfl⟩⟩
  have HV := Hid.mk hv
  have HP := Hid.mk hp
  rw [Hn.out] at hl h1 HV ⊢
  clear hv hp
  go_enter Try.func45, Try.ntmps45
  go_wp2_with fail
  go_loopg [5, 8] n (fun gg _ s8 wr => ∃ i : Nat, i ≤ n ∧ n - i ≤ gg ∧ s8 = .int .i64 (i : Int) ∧ Hid (∀ j, j < i → p (L.getD j none) = false) ∧ Hid (w = wr))
  case atStart => exact ⟨0, Nat.zero_le _, by omega, rfl, ⟨fun j hj => by omega⟩, ⟨rfl⟩⟩
  case round =>
    obtain ⟨i, hi, hgg, rfl, HF, HW⟩ := hrel
    rename World => wo
    have hw := HW.out
    subst hw
    clear HW
    by_cases hlt : i < n
    · have hltz : (i : Int) < (n : Int) := by omega
      have hiL : i < L.length := by rw [Hn.out]; exact hlt
      obtain ⟨b, off, cap, e, _, hc⟩ := HV.out.at hiL
      rw [Hn.out] at e
      simp only [Value.slice.injEq] at e
      obtain ⟨rfl, -, rfl⟩ := e
      obtain ⟨sa, sc, c1, hsn, _, _, _⟩ := hc i hiL
      have t1 := HP.out i sa sc hiL hsn
      generalize (sl (L.getD i none)).length = sn at c1 t1
      cases hpi : p (L.getD i none) with
      | true =>
        rw [hpi] at t1
        have HPI := Hid.mk hpi
        clear hc hsn hpi
        go_wp2_with fail
        refine t1.mono ?_
        rintro e wx ⟨rfl, rfl⟩
        clear t1
        go_wp2_with fail
        go_ret
        exact ⟨_, rfl, .inr ⟨i, rfl, hlt, HPI.out, HF.out⟩, rfl⟩
      | false =>
        rw [hpi] at t1
        have HF2 : Hid (∀ j, j < i + 1 → p (L.getD j none) = false) := ⟨fun j hj => by
          by_cases e : j = i
          · rw [e]; exact hpi
          · exact HF.out j (by omega)⟩
        clear hc hsn hpi
        go_wp2_with fail
        refine t1.mono ?_
        rintro e wx ⟨rfl, rfl⟩
        clear t1
        go_wp2_with fail
        go_roundg (n - (i + 1))
        case measure => omega
        case rel => exact ⟨i + 1, by omega, by omega, by go_num, HF2, ⟨rfl⟩⟩
    · obtain rfl : n = i := by omega
      go_wp2_with fail
      go_ret
      exact ⟨_, rfl, .inl ⟨rfl, HF.out⟩, rfl⟩
set_option maxHeartbeats 4000000 in
set_option maxRecDepth 100000 in
theorem has_long (v : Value) (L : List Sd) (p : Sd → Bool) {B : Nat × TypeId} (hv : RdR w B v L) (hl : L.length ≤ 1000000)
    (hp : ∀ i a c, i < L.length → (a = none ↔ L.getD i none = none) → Calls Try.prog 35 #[.slice a (sl (L.getD i none)).length c] w fun e w' => e = .returned (.bool (p (L.getD i none))) ∧ w = w') :
    Calls Try.prog 34 #[v, .func (.func 35) #[] #[]] w fun e w' => e = .returned (.bool (L.any p)) ∧ w = w' := by
  have t1 := idx_long (w := w) v L p hv hl hp
  obtain ⟨va, vc, rfl, h1, h2, _⟩ := hv.shape
  obtain ⟨z, Hz⟩ : ∃ z, Hid (L.any p = z) := ⟨_, ⟨rfl⟩⟩
  rw [Hz.out]
  clear hv hp h1 h2
  go_enter Try.func34, Try.ntmps34
  go_wp2_with fail
  refine t1.mono ?_
  rintro e wx ⟨y, rfl, hy, rfl⟩
  have HY := Hid.mk hy
  clear t1 hy
  rcases HY.out with ⟨rfl, h⟩ | ⟨i, rfl, h1, h2, _⟩
  · have HZ : Hid (z = false) := ⟨by rw [← Hz.out]; exact any_none h⟩
    clear h
    go_wp2_with fail
    go_ret
    exact ⟨ret_bool HZ.out.symm, rfl⟩
  · have HZ : Hid (z = true) := ⟨by rw [← Hz.out]; exact any_some h1 h2⟩
    have h0 : (0 : Int) ≤ (i : Int) := by omega
    clear h1 h2
    go_wp2_with fail
    go_ret
    exact ⟨ret_bool HZ.out.symm, rfl⟩
set_option maxHeartbeats 4000000 in
set_option maxRecDepth 100000 in
theorem idx_other (q : Nat) (v : Value) (L : List Sd) (p : Sd → Bool) {B : Nat × TypeId} (hv : RdR w B v L) (hl : L.length ≤ 1000000)
    (hp : ∀ i a c, i < L.length → (a = none ↔ L.getD i none = none) → Calls Try.prog 36 #[.slice a (sl (L.getD i none)).length c, .pointer (some ⟨q, 0, none⟩)] w fun e w' => e = .returned (.bool (p (L.getD i none))) ∧ w = w') :
    Calls Try.prog 45 #[v, .func (.func 36) #[] #[.pointer (some ⟨q, 0, none⟩)]] w fun e w' => ∃ z : Int, e = .returned (.int .i64 z) ∧ ((z = -1 ∧ ∀ i, i < L.length → p (L.getD i none) = false) ∨ ∃ i : Nat, z = i ∧ i < L.length ∧ p (L.getD i none) = true ∧ ∀ j, j < i → p (L.getD j none) = false) ∧ w = w' := by
  obtain ⟨va, vc, rfl, h1, h2, _⟩ := hv.shape
  obtain ⟨n, Hn⟩ : ∃ n, Hid (L.length = n) := ⟨_, ⟨rfl⟩⟩
  have HV := Hid.mk hv
  have HP := Hid.mk hp
  rw [Hn.out] at hl h1 HV ⊢
  clear hv hp
  go_enter Try.func45, Try.ntmps45
  go_wp2_with fail
  go_loopg [5, 8] n (fun gg _ s8 wr => ∃ i : Nat, i ≤ n ∧ n - i ≤ gg ∧ s8 = .int .i64 (i : Int) ∧ Hid (∀ j, j < i → p (L.getD j none) = false) ∧ Hid (w = wr))
  case atStart => exact ⟨0, Nat.zero_le _, by omega, rfl, ⟨fun j hj => by omega⟩, ⟨rfl⟩⟩
  case round =>
    obtain ⟨i, hi, hgg, rfl, HF, HW⟩ := hrel
    rename World => wo
    have hw := HW.out
    subst hw
    clear HW
    by_cases hlt : i < n
    · have hltz : (i : Int) < (n : Int) := by omega
      have hiL : i < L.length := by rw [Hn.out]; exact hlt
      obtain ⟨b, off, cap, e, _, hc⟩ := HV.out.at hiL
      rw [Hn.out] at e
      simp only [Value.slice.injEq] at e
      obtain ⟨rfl, -, rfl⟩ := e
      obtain ⟨sa, sc, c1, hsn, _, _, _⟩ := hc i hiL
      have t1 := HP.out i sa sc hiL hsn
      generalize (sl (L.getD i none)).length = sn at c1 t1
      cases hpi : p (L.getD i none) with
      | true =>
        rw [hpi] at t1
        have HPI := Hid.mk hpi
        clear hc hsn hpi
        go_wp2_with fail
        refine t1.mono ?_
        rintro e wx ⟨rfl, rfl⟩
        clear t1
        go_wp2_with fail
        go_ret
        exact ⟨_, rfl, .inr ⟨i, rfl, hlt, HPI.out, HF.out⟩, rfl⟩
      | false =>
        rw [hpi] at t1
        have HF2 : Hid (∀ j, j < i + 1 → p (L.getD j none) = false) := ⟨fun j hj => by
          by_cases e : j = i
          · rw [e]; exact hpi
          · exact HF.out j (by omega)⟩
        clear hc hsn hpi
        go_wp2_with fail
        refine t1.mono ?_
        rintro e wx ⟨rfl, rfl⟩
        clear t1
        go_wp2_with fail
        go_roundg (n - (i + 1))
        case measure => omega
        case rel => exact ⟨i + 1, by omega, by omega, by go_num, HF2, ⟨rfl⟩⟩
    · obtain rfl : n = i := by omega
      go_wp2_with fail
      go_ret
      exact ⟨_, rfl, .inl ⟨rfl, HF.out⟩, rfl⟩
set_option maxHeartbeats 4000000 in
set_option maxRecDepth 100000 in
theorem has_other (q : Nat) (v : Value) (L : List Sd) (p : Sd → Bool) {B : Nat × TypeId} (hv : RdR w B v L) (hl : L.length ≤ 1000000)
    (hp : ∀ i a c, i < L.length → (a = none ↔ L.getD i none = none) → Calls Try.prog 36 #[.slice a (sl (L.getD i none)).length c, .pointer (some ⟨q, 0, none⟩)] w fun e w' => e = .returned (.bool (p (L.getD i none))) ∧ w = w') :
    Calls Try.prog 34 #[v, .func (.func 36) #[] #[.pointer (some ⟨q, 0, none⟩)]] w fun e w' => e = .returned (.bool (L.any p)) ∧ w = w' := by
  have t1 := idx_other (w := w) q v L p hv hl hp
  obtain ⟨va, vc, rfl, h1, h2, _⟩ := hv.shape
  obtain ⟨z, Hz⟩ : ∃ z, Hid (L.any p = z) := ⟨_, ⟨rfl⟩⟩
  rw [Hz.out]
  clear hv hp h1 h2
  go_enter Try.func34, Try.ntmps34
  go_wp2_with fail
  refine t1.mono ?_
  rintro e wx ⟨y, rfl, hy, rfl⟩
  have HY := Hid.mk hy
  clear t1 hy
  rcases HY.out with ⟨rfl, h⟩ | ⟨i, rfl, h1, h2, _⟩
  · have HZ : Hid (z = false) := ⟨by rw [← Hz.out]; exact any_none h⟩
    clear h
    go_wp2_with fail
    go_ret
    exact ⟨ret_bool HZ.out.symm, rfl⟩
  · have HZ : Hid (z = true) := ⟨by rw [← Hz.out]; exact any_some h1 h2⟩
    have h0 : (0 : Int) ≤ (i : Int) := by omega
    clear h1 h2
    go_wp2_with fail
    go_ret
    exact ⟨ret_bool HZ.out.symm, rfl⟩
set_option maxHeartbeats 4000000 in
set_option maxRecDepth 100000 in
theorem idx_lost (v : Value) (L : List Sd) (p : Sd → Bool) {B : Nat × TypeId} (hv : RdR w B v L) (hl : L.length ≤ 1000000)
    (hp : ∀ i a c, i < L.length → (a = none ↔ L.getD i none = none) → Calls Try.prog 44 #[.slice a (sl (L.getD i none)).length c] w fun e w' => e = .returned (.bool (p (L.getD i none))) ∧ w = w') :
    Calls Try.prog 45 #[v, .func (.func 44) #[] #[]] w fun e w' => ∃ z : Int, e = .returned (.int .i64 z) ∧ ((z = -1 ∧ ∀ i, i < L.length → p (L.getD i none) = false) ∨ ∃ i : Nat, z = i ∧ i < L.length ∧ p (L.getD i none) = true ∧ ∀ j, j < i → p (L.getD j none) = false) ∧ w = w' := by
  obtain ⟨va, vc, rfl, h1, h2, _⟩ := hv.shape
  obtain ⟨n, Hn⟩ : ∃ n, Hid (L.length = n) := ⟨_, ⟨rfl⟩⟩
  have HV := Hid.mk hv
  have HP := Hid.mk hp
  rw [Hn.out] at hl h1 HV ⊢
  clear hv hp
  go_enter Try.func45, Try.ntmps45
  go_wp2_with fail
  go_loopg [5, 8] n (fun gg _ s8 wr => ∃ i : Nat, i ≤ n ∧ n - i ≤ gg ∧ s8 = .int .i64 (i : Int) ∧ Hid (∀ j, j < i → p (L.getD j none) = false) ∧ Hid (w = wr))
  case atStart => exact ⟨0, Nat.zero_le _, by omega, rfl, ⟨fun j hj => by omega⟩, ⟨rfl⟩⟩
  case round =>
    obtain ⟨i, hi, hgg, rfl, HF, HW⟩ := hrel
    rename World => wo
    have hw := HW.out
    subst hw
    clear HW
    by_cases hlt : i < n
    · have hltz : (i : Int) < (n : Int) := by omega
      have hiL : i < L.length := by rw [Hn.out]; exact hlt
      obtain ⟨b, off, cap, e, _, hc⟩ := HV.out.at hiL
      rw [Hn.out] at e
      simp only [Value.slice.injEq] at e
      obtain ⟨rfl, -, rfl⟩ := e
      obtain ⟨sa, sc, c1, hsn, _, _, _⟩ := hc i hiL
      have t1 := HP.out i sa sc hiL hsn
      generalize (sl (L.getD i none)).length = sn at c1 t1
      cases hpi : p (L.getD i none) with
      | true =>
        rw [hpi] at t1
        have HPI := Hid.mk hpi
        clear hc hsn hpi
        go_wp2_with fail
        refine t1.mono ?_
        rintro e wx ⟨rfl, rfl⟩
        clear t1
        go_wp2_with fail
        go_ret
        exact ⟨_, rfl, .inr ⟨i, rfl, hlt, HPI.out, HF.out⟩, rfl⟩
      | false =>
        rw [hpi] at t1
        have HF2 : Hid (∀ j, j < i + 1 → p (L.getD j none) = false) := ⟨fun j hj => by
          by_cases e : j = i
          · rw [e]; exact hpi
          · exact HF.out j (by omega)⟩
        clear hc hsn hpi
        go_wp2_with fail
        refine t1.mono ?_
        rintro e wx ⟨rfl, rfl⟩
        clear t1
        go_wp2_with fail
        go_roundg (n - (i + 1))
        case measure => omega
        case rel => exact ⟨i + 1, by omega, by omega, by go_num, HF2, ⟨rfl⟩⟩
    · obtain rfl : n = i := by omega
      go_wp2_with fail
      go_ret
      exact ⟨_, rfl, .inl ⟨rfl, HF.out⟩, rfl⟩
set_option maxHeartbeats 4000000 in
set_option maxRecDepth 100000 in
theorem has_lost (v : Value) (L : List Sd) (p : Sd → Bool) {B : Nat × TypeId} (hv : RdR w B v L) (hl : L.length ≤ 1000000)
    (hp : ∀ i a c, i < L.length → (a = none ↔ L.getD i none = none) → Calls Try.prog 44 #[.slice a (sl (L.getD i none)).length c] w fun e w' => e = .returned (.bool (p (L.getD i none))) ∧ w = w') :
    Calls Try.prog 34 #[v, .func (.func 44) #[] #[]] w fun e w' => e = .returned (.bool (L.any p)) ∧ w = w' := by
  have t1 := idx_lost (w := w) v L p hv hl hp
  obtain ⟨va, vc, rfl, h1, h2, _⟩ := hv.shape
  obtain ⟨z, Hz⟩ : ∃ z, Hid (L.any p = z) := ⟨_, ⟨rfl⟩⟩
  rw [Hz.out]
  clear hv hp h1 h2
  go_enter Try.func34, Try.ntmps34
  go_wp2_with fail
  refine t1.mono ?_
  rintro e wx ⟨y, rfl, hy, rfl⟩
  have HY := Hid.mk hy
  clear t1 hy
  rcases HY.out with ⟨rfl, h⟩ | ⟨i, rfl, h1, h2, _⟩
  · have HZ : Hid (z = false) := ⟨by rw [← Hz.out]; exact any_none h⟩
    clear h
    go_wp2_with fail
    go_ret
    exact ⟨ret_bool HZ.out.symm, rfl⟩
  · have HZ : Hid (z = true) := ⟨by rw [← Hz.out]; exact any_some h1 h2⟩
    have h0 : (0 : Int) ≤ (i : Int) := by omega
    clear h1 h2
    go_wp2_with fail
    go_ret
    exact ⟨ret_bool HZ.out.symm, rfl⟩
/-- Have all rows as many elements? -/
def frm (L : List Sd) : Bool := L.any (pOther (sl (L.getD 0 none)).length)
set_option maxHeartbeats 4000000 in
set_option maxRecDepth 100000 in
theorem checkRows23 (v : Value) (L : List Sd) {B : Nat × TypeId} (hv : RdR w B v L) (hl : L.length ≤ 1000000) (h4 : ∀ i, i < L.length → (sl (L.getD i none)).length ≤ 4096) :
    Calls Try.prog 23 #[v] w fun e w' => e = .returned (.int .i64 (if frm L then 4 else 0)) ∧ Below w.heap.size w w' := by
  obtain ⟨va, vc, rfl, h1, h2, _⟩ := hv.shape
  obtain ⟨w1, Hw1⟩ : ∃ w1, Hid (w.alloc (.cells #[.slice va L.length vc] 22) = w1) := ⟨_, ⟨rfl⟩⟩
  have HB1 : Hid (Below w.heap.size w w1) := ⟨by rw [← Hw1.out]; exact (Below.refl _ w).alloc (Nat.le_refl _) _⟩
  have HO1 : Hid (One w1 w.heap.size (.slice va L.length vc) 22) := ⟨by rw [← Hw1.out]; exact heap_alloc_new w _⟩
  have hv1 := hv.below HB1.out
  have t1 := has_long (w := w1) _ L pLong hv1 hl (fun i a c hi _ => long35 a _ c)
  have hlong : L.any pLong = false := any_none (fun i hi => decide_eq_false (by have := h4 i hi; omega))
  rw [hlong] at t1
  have t2 : Calls Try.prog 34 #[.slice va L.length vc, .func (.func 36) #[] #[.pointer (some ⟨w.heap.size, 0, none⟩)]] w1 fun e w' => e = .returned (.bool (frm L)) ∧ w1 = w' :=
    has_other (w := w1) w.heap.size _ L (pOther (sl (L.getD 0 none)).length) hv1 hl (fun i a c hi _ => by
      obtain ⟨b, off, cap, e, _, hc⟩ := hv1.at hi
      simp only [Value.slice.injEq] at e
      obtain ⟨rfl, -, rfl⟩ := e
      obtain ⟨sa, sc, c1, _⟩ := hc 0 (by omega)
      exact other36 a _ c w.heap.size b off L.length vc _ sa sc (cell_of_one HO1.out) c1 (by omega))
  have c1 := cell_of_one HO1.out
  obtain ⟨q, Hq⟩ : ∃ q, Hid (w.heap.size = q) := ⟨_, ⟨rfl⟩⟩
  rw [Hq.out] at c1 t2
  generalize L.length = n at *
  generalize frm L = z at *
  clear hv hv1 hlong h4
  cases z with
  | true =>
    rw [if_pos rfl]
    go_enter Try.func23, Try.ntmps23
    go_upto_region 1 with fail
    rw [Hw1.out, Hq.out]
    go_wp2_with fail
    refine t1.mono ?_
    rintro e wx ⟨rfl, rfl⟩
    clear t1
    go_wp2_with fail
    refine t2.mono ?_
    rintro e wx ⟨rfl, rfl⟩
    clear t2
    go_wp2_with fail
    go_ret
    exact ⟨rfl, HB1.out⟩
  | false =>
    rw [if_neg (by decide)]
    go_enter Try.func23, Try.ntmps23
    go_upto_region 1 with fail
    rw [Hw1.out, Hq.out]
    go_wp2_with fail
    refine t1.mono ?_
    rintro e wx ⟨rfl, rfl⟩
    clear t1
    go_wp2_with fail
    refine t2.mono ?_
    rintro e wx ⟨rfl, rfl⟩
    clear t2
    go_wp2_with fail
    go_ret
    exact ⟨rfl, HB1.out⟩
end
end Go.Proofs.Ytbdmbhpmbklaiaa
