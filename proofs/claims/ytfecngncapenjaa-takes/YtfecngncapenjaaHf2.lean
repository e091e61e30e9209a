/- Trees that are joined, the two least again and again: how long the codes are, that there are words for them, that none cost less (plain mathematics). -/
import Derived.Test.YtfecngncapenjaaHf
namespace Go.Proofs.Ytfecngncapenjaa.Hf

/-- A sum over the bytes. -/
def sm (f : Nat → Nat) : Nat → Nat
  | 0 => 0
  | n + 1 => sm f n + f n
theorem sm_congr {f g : Nat → Nat} : ∀ n, (∀ i, i < n → f i = g i) → sm f n = sm g n
  | 0, _ => rfl
  | n + 1, h => by rw [sm, sm, sm_congr n (fun i hi => h i (by omega)), h n (by omega)]
theorem sm_add {f g : Nat → Nat} : ∀ n, sm (fun i => f i + g i) n = sm f n + sm g n
  | 0 => rfl
  | n + 1 => by rw [sm, sm, sm, sm_add n]; omega
theorem sm_le {f g : Nat → Nat} : ∀ n, (∀ i, i < n → f i ≤ g i) → sm f n ≤ sm g n
  | 0, _ => Nat.le_refl _
  | n + 1, h => by
    have h1 := sm_le n (fun i hi => h i (by omega))
    have h2 := h n (by omega)
    rw [sm, sm]; omega
theorem sm_mul {f : Nat → Nat} (k : Nat) : ∀ n, sm (fun i => k * f i) n = k * sm f n
  | 0 => rfl
  | n + 1 => by rw [sm, sm, sm_mul k n, Nat.mul_add]
theorem sm_zero : ∀ n, sm (fun _ => 0) n = 0
  | 0 => rfl
  | n + 1 => by rw [sm, sm_zero n]
theorem sm_pos {f : Nat → Nat} : ∀ n, 0 < sm f n → ∃ i, i < n ∧ 0 < f i
  | 0, h => by simp [sm] at h
  | n + 1, h => by
    rw [sm] at h
    by_cases h0 : 0 < f n
    · exact ⟨n, by omega, h0⟩
    · obtain ⟨i, hi, h1⟩ := sm_pos (f := f) n (by omega)
      exact ⟨i, by omega, h1⟩
def fib : Nat → Nat
  | 0 => 0
  | 1 => 1
  | n + 2 => fib (n + 1) + fib n
theorem fib_mono : ∀ n, fib n ≤ fib (n + 1)
  | 0 => by decide
  | n + 1 => by rw [fib]; omega
theorem fib_le {m n : Nat} (h : m ≤ n) : fib m ≤ fib n := by
  obtain ⟨d, rfl⟩ := Nat.exists_eq_add_of_le h
  clear h
  induction d with
  | zero => exact Nat.le_refl _
  | succ d ih => have := fib_mono (m + d); rw [← Nat.add_assoc]; omega
/-- A tree: its count, its bytes. -/
structure Tr where
  w : Nat
  has : Nat → Bool
def Tr.join (x y : Tr) : Tr := ⟨x.w + y.w, fun i => x.has i || y.has i⟩
def Apart (x y : Tr) : Prop := ∀ i, ¬ (x.has i = true ∧ y.has i = true)
theorem Apart.symm {x y : Tr} (h : Apart x y) : Apart y x := fun i hi => h i ⟨hi.2, hi.1⟩
/-- From the trees F0 on, each of one byte, the two least were joined, again and again; out: how often a byte became part of a tree. -/
inductive Run (F0 : List Tr) : List Tr → (Nat → Nat) → Prop
  | init : Run F0 F0 (fun _ => 0)
  | step (F rest : List Tr) (x y : Tr) (out : Nat → Nat) : Run F0 F out → F.Perm (x :: y :: rest) → (∀ t ∈ rest, x.w ≤ t.w ∧ y.w ≤ t.w) → Run F0 (x.join y :: rest) (fun i => if (x.join y).has i then out i + 1 else out i)
/-- What is so of the trees at the beginning. -/
structure Init (c : Nat → Nat) (F : List Tr) : Prop where
  apart : F.Pairwise Apart
  pos : ∀ t ∈ F, 1 ≤ t.w
  sum : ∀ t ∈ F, t.w = sm (fun i => if t.has i then c i else 0) 256
  one : ∀ t ∈ F, ∀ M, sm (fun i => if t.has i then 2 ^ M else 0) 256 = 2 ^ M
/-- What is so all the time. -/
structure Inv (c : Nat → Nat) (F0 F : List Tr) (out : Nat → Nat) : Prop where
  apart : F.Pairwise Apart
  pos : ∀ t ∈ F, 1 ≤ t.w
  sum : ∀ t ∈ F, t.w = sm (fun i => if t.has i then c i else 0) 256
  kraft : ∀ t ∈ F, ∀ M, (∀ i, i < 256 → t.has i = true → out i ≤ M) → sm (fun i => if t.has i then 2 ^ (M - out i) else 0) 256 = 2 ^ M
  deep : ∀ t ∈ F, ∀ i, t.has i = true → fib (out i + 2) ≤ t.w
  all : ∀ t ∈ F, ∀ i, t.has i = true → ∀ u ∈ F, fib (out i + 1) ≤ u.w
  huff : ∀ d, Huff (F.map Tr.w) d → Huff (F0.map Tr.w) (d + sm (fun i => c i * out i) 256)
  free : ∀ i, (∀ t ∈ F, t.has i = false) → out i = 0
  same : ∀ i, (∃ t ∈ F, t.has i = true) ↔ (∃ t ∈ F0, t.has i = true)
theorem Inv.start {c : Nat → Nat} {F : List Tr} (h : Init c F) : Inv c F F (fun _ => 0) := by
  refine ⟨h.apart, h.pos, h.sum, fun t ht M _ => by simpa using h.one t ht M, fun t ht i _ => by simpa [fib] using h.pos t ht, fun t ht i _ u hu => by simpa [fib] using h.pos u hu, fun d hd => ?_, fun _ _ => rfl, fun _ => Iff.rfl⟩
  have : sm (fun i => c i * 0) 256 = 0 := by
    have := sm_congr (f := fun i => c i * 0) (g := fun _ => 0) 256 (fun i _ => Nat.mul_zero _)
    rw [this, sm_zero]
  rw [this]; exact hd
theorem Inv.next {c : Nat → Nat} {F0 F rest : List Tr} {x y : Tr} {out : Nat → Nat} (h : Inv c F0 F out) (hp : F.Perm (x :: y :: rest)) (hle : ∀ t ∈ rest, x.w ≤ t.w ∧ y.w ≤ t.w) :
    Inv c F0 (x.join y :: rest) (fun i => if (x.join y).has i then out i + 1 else out i) := by
  have hx : x ∈ F := hp.mem_iff.2 (by simp)
  have hy : y ∈ F := hp.mem_iff.2 (by simp)
  have hr : ∀ t ∈ rest, t ∈ F := fun t ht => hp.mem_iff.2 (by simp [ht])
  have hpw : (x :: y :: rest).Pairwise Apart := (hp.pairwise_iff (fun h => h.symm)).1 h.apart
  obtain ⟨hxa, hpw2⟩ := List.pairwise_cons.1 hpw
  obtain ⟨hya, hpw3⟩ := List.pairwise_cons.1 hpw2
  have hxy : Apart x y := hxa y (by simp)
  have hzr : ∀ t ∈ rest, Apart (x.join y) t := fun t ht i hi => by
    simp only [Tr.join, Bool.or_eq_true] at hi
    rcases hi with ⟨h1 | h1, h2⟩
    · exact hxa t (by simp [ht]) i ⟨h1, h2⟩
    · exact hya t ht i ⟨h1, h2⟩
  have hnot : ∀ t ∈ rest, ∀ i, t.has i = true → (x.join y).has i = false := fun t ht i hi => by
    cases hh : (x.join y).has i
    · rfl
    · exact absurd ⟨hh, hi⟩ (hzr t ht i)
  have hsum : ∀ f : Nat → Nat, sm (fun i => if (x.join y).has i then f i else 0) 256 = sm (fun i => if x.has i then f i else 0) 256 + sm (fun i => if y.has i then f i else 0) 256 := fun f => by
    rw [← sm_add]
    refine sm_congr 256 fun i _ => ?_
    have := hxy i
    simp only [Tr.join]
    by_cases h1 : x.has i = true <;> by_cases h2 : y.has i = true <;> simp_all
  refine ⟨List.pairwise_cons.2 ⟨hzr, hpw3⟩, ?_, ?_, ?_, ?_, ?_, ?_, ?_, ?_⟩
  · intro t ht
    rcases List.mem_cons.1 ht with rfl | ht
    · have := h.pos x hx
      simp only [Tr.join]; omega
    · exact h.pos t (hr t ht)
  · intro t ht
    rcases List.mem_cons.1 ht with rfl | ht
    · rw [hsum, ← h.sum x hx, ← h.sum y hy]; rfl
    · exact h.sum t (hr t ht)
  · intro t ht M hM
    rcases List.mem_cons.1 ht with rfl | ht
    · have hM' : ∀ i, i < 256 → (x.join y).has i = true → out i + 1 ≤ M := fun i hi hh => by
        have := hM i hi hh
        rwa [if_pos hh] at this
      have hM1 : 1 ≤ M := by
        have hs := h.sum x hx
        have hp' := h.pos x hx
        obtain ⟨i, hi, h1⟩ := sm_pos 256 (by omega : 0 < sm (fun i => if x.has i then c i else 0) 256)
        have hxi : x.has i = true := by
          cases hh : x.has i
          · simp [hh] at h1
          · rfl
        have := hM' i hi (by simp [Tr.join, hxi])
        omega
      have e : sm (fun i => if (x.join y).has i then 2 ^ (M - (if (x.join y).has i then out i + 1 else out i)) else 0) 256 = sm (fun i => if (x.join y).has i then 2 ^ (M - 1 - out i) else 0) 256 := sm_congr 256 fun i hi => by
        by_cases hh : (x.join y).has i = true
        · rw [if_pos hh, if_pos hh, if_pos hh, show M - (out i + 1) = M - 1 - out i by omega]
        · rw [if_neg hh, if_neg hh]
      rw [e, hsum, h.kraft x hx (M - 1) (fun i hi hh => by have := hM' i hi (by simp [Tr.join, hh]); omega), h.kraft y hy (M - 1) (fun i hi hh => by have := hM' i hi (by simp [Tr.join, hh]); omega)]
      obtain ⟨M, rfl⟩ := Nat.exists_eq_add_of_le hM1
      rw [Nat.add_sub_cancel_left, Nat.add_comm 1 M, Nat.pow_succ]
      omega
    · have e : sm (fun i => if t.has i then 2 ^ (M - (if (x.join y).has i then out i + 1 else out i)) else 0) 256 = sm (fun i => if t.has i then 2 ^ (M - out i) else 0) 256 := sm_congr 256 fun i hi => by
        by_cases hh : t.has i = true
        · rw [if_pos hh, if_pos hh, hnot t ht i hh]; rfl
        · rw [if_neg hh, if_neg hh]
      rw [e]
      refine h.kraft t (hr t ht) M fun i hi hh => ?_
      have := hM i hi hh
      rwa [hnot t ht i hh] at this
  · intro t ht i hi
    rcases List.mem_cons.1 ht with rfl | ht
    · rw [if_pos hi]
      rw [show out i + 1 + 2 = (out i + 1) + 2 by omega, fib]
      simp only [Tr.join, Bool.or_eq_true] at hi ⊢
      rcases hi with hi | hi
      · have h1 := h.deep x hx i hi
        have h2 := h.all x hx i hi y hy
        rw [show out i + 1 + 1 = out i + 2 by omega]
        omega
      · have h1 := h.deep y hy i hi
        have h2 := h.all y hy i hi x hx
        rw [show out i + 1 + 1 = out i + 2 by omega]
        omega
    · rw [hnot t ht i hi]
      exact h.deep t (hr t ht) i hi
  · intro t ht i hi u hu
    rcases List.mem_cons.1 ht with rfl | ht
    · rw [if_pos hi, show out i + 1 + 1 = out i + 2 by omega]
      simp only [Tr.join, Bool.or_eq_true] at hi
      rcases hi with hi | hi
      · have h1 := h.deep x hx i hi
        rcases List.mem_cons.1 hu with rfl | hu
        · simp only [Tr.join]; omega
        · have := (hle u hu).1; omega
      · have h1 := h.deep y hy i hi
        rcases List.mem_cons.1 hu with rfl | hu
        · simp only [Tr.join]; omega
        · have := (hle u hu).2; omega
    · rw [hnot t ht i hi]
      simp only [Bool.false_eq_true, if_false]
      rcases List.mem_cons.1 hu with rfl | hu
      · have := h.all t (hr t ht) i hi x hx
        simp only [Tr.join]; omega
      · exact h.all t (hr t ht) i hi u (hr u hu)
  · intro d hd
    have h1 : Huff (F.map Tr.w) (d + (x.w + y.w)) := by
      refine Huff.join _ (rest.map Tr.w) x.w y.w d (by simpa using hp.map Tr.w) (fun w hw => ?_) (by simpa [Tr.join] using hd)
      obtain ⟨t, ht, rfl⟩ := List.mem_map.1 hw
      exact hle t ht
    have h2 := h.huff _ h1
    have e : sm (fun i => c i * (if (x.join y).has i then out i + 1 else out i)) 256 = sm (fun i => c i * out i) 256 + (x.w + y.w) := by
      have e1 : x.w + y.w = sm (fun i => if (x.join y).has i then c i else 0) 256 := by rw [hsum, ← h.sum x hx, ← h.sum y hy]
      rw [e1, ← sm_add]
      refine sm_congr 256 fun i _ => ?_
      by_cases hh : (x.join y).has i = true
      · rw [if_pos hh, if_pos hh, Nat.mul_add, Nat.mul_one]
      · rw [if_neg hh, if_neg hh, Nat.add_zero]
    rw [e, show d + (sm (fun i => c i * out i) 256 + (x.w + y.w)) = d + (x.w + y.w) + sm (fun i => c i * out i) 256 by omega]
    exact h2
  · intro i hi
    have hz := hi (x.join y) (by simp)
    rw [hz]
    simp only [Tr.join, Bool.or_eq_false_iff] at hz
    refine h.free i fun t ht => ?_
    have := hp.mem_iff.1 ht
    simp only [List.mem_cons] at this
    rcases this with rfl | rfl | ht
    · exact hz.1
    · exact hz.2
    · exact hi t (by simp [ht])
  · intro i
    rw [← h.same i]
    constructor
    · rintro ⟨t, ht, hh⟩
      rcases List.mem_cons.1 ht with rfl | ht
      · simp only [Tr.join, Bool.or_eq_true] at hh
        rcases hh with hh | hh
        · exact ⟨x, hx, hh⟩
        · exact ⟨y, hy, hh⟩
      · exact ⟨t, hr t ht, hh⟩
    · rintro ⟨t, ht, hh⟩
      have := hp.mem_iff.1 ht
      simp only [List.mem_cons] at this
      rcases this with rfl | rfl | ht
      · exact ⟨t.join y, by simp, by simp [Tr.join, hh]⟩
      · exact ⟨x.join t, by simp, by simp [Tr.join, hh]⟩
      · exact ⟨t, by simp [ht], hh⟩
theorem Run.inv {c : Nat → Nat} {F0 F : List Tr} {out : Nat → Nat} (h0 : Init c F0) (h : Run F0 F out) : Inv c F0 F out := by
  induction h with
  | init => exact Inv.start h0
  | step F rest x y out _ hp hle ih => exact ih.next hp hle
/-- No code is longer than 60, if all weigh no more than 2^21. -/
theorem Inv.short {c : Nat → Nat} {F0 F : List Tr} {out : Nat → Nat} (h : Inv c F0 F out) {t : Tr} (ht : t ∈ F) (hw : t.w ≤ 2097152) {i : Nat} (hi : t.has i = true) : out i ≤ 29 := by
  have h1 := h.deep t ht i hi
  by_cases hh : out i ≤ 29
  · exact hh
  · exfalso
    have h2 : fib 32 ≤ fib (out i + 2) := fib_le (by omega)
    have h3 : fib 32 = 2178309 := by decide
    omega
/-- The code of one tree costs no more than any other one. -/
theorem Inv.least {c : Nat → Nat} {F0 : List Tr} {t : Tr} {out : Nat → Nat} (h : Inv c F0 [t] out) {p : List P2} (hp : (p.map (·.1)).Perm (F0.map Tr.w)) (hk : Ok p) : sm (fun i => c i * out i) 256 ≤ cost p := by
  have := best (h.huff 0 (Huff.one t.w)) p hp hk
  omega
end Go.Proofs.Ytfecngncapenjaa.Hf
