/- The field of 256 elements: products by doubling, powers by squares, weights by two products, values by powers (plain mathematics). -/
import Derived.Test.YtbdmbhpmbklaiaaGfL
namespace Go.Proofs.Ytbdmbhpmbklaiaa.Gf

def dbl (s : Nat) : Nat := if 256 ≤ s * 2 then (s * 2) ^^^ 285 else s * 2
def shf (a : Nat) : Nat → Nat
  | 0 => a
  | i + 1 => dbl (shf a i)
def alf (a b : Nat) : Nat → Nat
  | 0 => 0
  | i + 1 => if b.testBit i then alf a b i ^^^ shf a i else alf a b i
set_option maxRecDepth 100000 in
theorem dbl_gm : ∀ s : Fin 256, dbl s.1 = gm s.1 2 := by decide
theorem two_up : ∀ i : Fin 7, gm (2 ^ i.1) 2 = 2 ^ (i.1 + 1) := by decide
theorem two_lt {i : Nat} (h : i < 8) : 2 ^ i < 256 := by
  have : 2 ^ i ≤ 2 ^ 7 := Nat.pow_le_pow_right (by decide) (by omega)
  omega
theorem shf_gm {a : Nat} (ha : a < 256) : ∀ i, i < 8 → shf a i = gm a (2 ^ i)
  | 0, _ => (gm_one ⟨a, ha⟩).symm
  | i + 1, h => by
    have h1 := shf_gm ha i (by omega)
    have h2 : gm a (2 ^ i) < 256 := gm_lt ha (two_lt (by omega))
    rw [shf, h1, dbl_gm ⟨_, h2⟩, ← gm_assoc ha (two_lt (by omega)) (by decide), two_up ⟨i, by omega⟩]
theorem shf_lt {a : Nat} (ha : a < 256) : ∀ i, shf a i < 256
  | 0 => ha
  | i + 1 => by
    have := shf_lt ha i
    rw [shf, dbl_gm ⟨_, this⟩]
    exact gm_lt this (by decide)
theorem alf_lt {a : Nat} (ha : a < 256) (b : Nat) : ∀ i, alf a b i < 256
  | 0 => by simp [alf]
  | i + 1 => by
    have h1 := alf_lt ha b i
    have h2 := shf_lt ha i
    rw [alf]
    split
    · exact Nat.xor_lt_two_pow (n := 8) h1 h2
    · exact h1
theorem alf_lin {a : Nat} (ha : a < 256) (b : Nat) : ∀ i, i ≤ 8 → alf a b i = lin (gm a) b i
  | 0, _ => rfl
  | i + 1, h => by
    rw [alf, lin, alf_lin ha b i (by omega), shf_gm ha i (by omega)]
    cases b.testBit i <;> simp
theorem alf_gm {a b : Nat} (ha : a < 256) (hb : b < 256) : alf a b 8 = gm a b := by
  rw [alf_lin ha b 8 (Nat.le_refl _), (add_gmr a).at hb]
theorem cl_lt {a : Nat} (ha : a < 256) (b : Nat) : ∀ i, i ≤ 8 → cl a b i < 32768
  | 0, _ => by simp [cl]
  | i + 1, h => by
    have h1 := cl_lt ha b i (by omega)
    rw [cl]
    refine Nat.xor_lt_two_pow (n := 15) h1 ?_
    split
    · rw [Nat.shiftLeft_eq]
      have := two_lt (show i < 8 by omega)
      have h3 : a * 2 ^ i ≤ 255 * 2 ^ i := Nat.mul_le_mul_right _ (by omega)
      have h4 : 2 ^ i ≤ 2 ^ 7 := Nat.pow_le_pow_right (by decide) (by omega)
      omega
    · decide
theorem rd_lt {n : Nat} (hn : n < 32768) : ∀ t, t ≤ 7 → rd n t < 32768
  | 0, _ => hn
  | t + 1, h => by
    have h1 := rd_lt hn t (by omega)
    rw [rd]
    refine Nat.xor_lt_two_pow (n := 15) h1 ?_
    split
    · rw [Nat.shiftLeft_eq]
      have h4 : 2 ^ (6 - t) ≤ 2 ^ 6 := Nat.pow_le_pow_right (by decide) (by omega)
      omega
    · decide

def ge (i : Nat) (h : i < 256) : G := Fin.mk i h
theorem ge_val (i : Nat) (h : i < 256) : (ge i h).1 = i := rfl
/-- Powers. -/
def gpw (a : G) : Nat → G
  | 0 => 1
  | n + 1 => gpw a n * a
theorem gpw_one (a : G) : gpw a 1 = a := one_mul a
theorem gpw_add (a : G) (m : Nat) : ∀ n, gpw a (m + n) = gpw a m * gpw a n
  | 0 => (mul_one _).symm
  | n + 1 => by rw [Nat.add_succ, gpw, gpw_add a m n, gpw, mul_assoc]
theorem one_gpw : ∀ n, gpw 1 n = 1
  | 0 => rfl
  | n + 1 => by rw [gpw, one_gpw n, mul_one]
theorem zero_gpw {n : Nat} (h : 0 < n) : gpw 0 n = 0 := by
  cases n with
  | zero => omega
  | succ n => rw [gpw, mul_zero]
theorem gpw_mul (a : G) (m : Nat) : ∀ n, gpw a (m * n) = gpw (gpw a m) n
  | 0 => rfl
  | n + 1 => by rw [Nat.mul_succ, gpw_add, gpw_mul a m n, gpw]
theorem mul_gpw (a b : G) : ∀ n, gpw (a * b) n = gpw a n * gpw b n
  | 0 => (mul_one 1).symm
  | n + 1 => by
    rw [gpw, gpw, gpw, mul_gpw a b n]
    ac_rfl
theorem sq_gpw (a : G) (n : Nat) : gpw a n * gpw a n = gpw a (2 * n) := by rw [← gpw_add, Nat.two_mul]
theorem inv_gpw (a : G) : inv a = gpw a 254 := by
  have e : inv a = ((((((gpw a 2 * gpw a 4) * gpw a 8) * gpw a 16) * gpw a 32) * gpw a 64) * gpw a 128) := by
    have h1 : a = gpw a 1 := (gpw_one a).symm
    have h2 : gpw a 2 = a * a := by rw [show (2 : Nat) = 2 * 1 from rfl, ← sq_gpw, gpw_one]
    have h4 : gpw a 4 = gpw a 2 * gpw a 2 := by rw [sq_gpw]
    have h8 : gpw a 8 = gpw a 4 * gpw a 4 := by rw [sq_gpw]
    have h16 : gpw a 16 = gpw a 8 * gpw a 8 := by rw [sq_gpw]
    have h32 : gpw a 32 = gpw a 16 * gpw a 16 := by rw [sq_gpw]
    have h64 : gpw a 64 = gpw a 32 * gpw a 32 := by rw [sq_gpw]
    have h128 : gpw a 128 = gpw a 64 * gpw a 64 := by rw [sq_gpw]
    rw [h128, h64, h32, h16, h8, h4, h2]
    rfl
  rw [e]
  simp only [← gpw_add]
theorem gpw_255 {a : G} (h : a ≠ 0) : gpw a 255 = 1 := by
  have e : gpw a (254 + 1) = gpw a 254 * gpw a 1 := gpw_add a 254 1
  rw [gpw_one, ← inv_gpw, mul_comm, mul_inv h] at e
  exact e
theorem gpw_mod {a : G} (h : a ≠ 0) (n : Nat) : gpw a (n % 255) = gpw a n := by
  have e : gpw a (n % 255 + 255 * (n / 255)) = gpw a (n % 255) := by rw [gpw_add, gpw_mul, gpw_255 h, one_gpw, mul_one]
  rwa [Nat.mod_add_div, eq_comm] at e
theorem inv_zero : inv 0 = 0 := by
  have h : iv (0 : G).1 = (0 : G).1 := iv_zero
  exact G.ext h
theorem inv_mul (a b : G) : inv (a * b) = inv a * inv b := by rw [inv_gpw, inv_gpw, inv_gpw, mul_gpw]
theorem inv_one : inv 1 = 1 := by rw [inv_gpw, one_gpw]
theorem inv_only {a b : G} (h : a * b = 1) : b = inv a := by
  have ha : a ≠ 0 := fun e => by rw [e, zero_mul] at h; exact absurd h (by decide)
  have : inv a * (a * b) = inv a * 1 := by rw [h]
  rwa [← mul_assoc, mul_comm (inv a), mul_inv ha, one_mul, mul_one] at this

/-- The product of the first n of some factors. -/
def prd (f : Nat → G) : Nat → G
  | 0 => 1
  | n + 1 => prd f n * f n
theorem prd_congr {f g : Nat → G} : ∀ n, (∀ i, i < n → f i = g i) → prd f n = prd g n
  | 0, _ => rfl
  | n + 1, h => by rw [prd, prd, prd_congr n (fun i hi => h i (by omega)), h n (by omega)]
/-- Which factor stands at a bit. -/
def pf (a : G) (n i : Nat) : G := if n.testBit i then gpw a (2 ^ i) else 1
theorem prd_pow (a : G) (n : Nat) : ∀ k, prd (pf a n) k = gpw a (n % 2 ^ k)
  | 0 => by simp [prd, gpw, Nat.mod_one]
  | k + 1 => by
    have e : n % 2 ^ (k + 1) = n % 2 ^ k + 2 ^ k * (n / 2 ^ k % 2) := by rw [Nat.pow_succ, Nat.mod_mul]
    rw [prd, prd_pow a n k, e, gpw_add, pf]
    have hb : n.testBit k = decide (n / 2 ^ k % 2 = 1) := by rw [Nat.testBit_eq_decide_div_mod_eq]
    rw [hb]
    by_cases h : n / 2 ^ k % 2 = 1
    · simp [h]
    · have h0 : n / 2 ^ k % 2 = 0 := by omega
      simp [h0, gpw]
theorem prd_full (a : G) {n k : Nat} (h : n < 2 ^ k) : prd (pf a n) k = gpw a n := by
  rw [prd_pow, Nat.mod_eq_of_lt h]
theorem prd_zero {f : Nat → G} {j : Nat} : ∀ n, j < n → f j = 0 → prd f n = 0
  | 0, h, _ => by omega
  | n + 1, h, h0 => by
    rw [prd]
    by_cases e : j = n
    · rw [← e, h0, mul_zero]
    · rw [prd_zero n (by omega) h0, zero_mul]
theorem prd_ne {f : Nat → G} : ∀ n, (∀ j, j < n → f j ≠ 0) → prd f n ≠ 0
  | 0, _ => by show (1 : G) ≠ 0; decide
  | n + 1, h => fun e => h n (by omega) (mul_eq_zero (prd_ne n (fun j hj => h j (by omega))) e)

/-- What lies between x and a point; 1 at the one that is left out. -/
def ap (xs : List G) (i : Nat) (x : G) (k : Nat) : G := if k = i then 1 else x + xs.getD k 0
def wq (xs : List G) (i : Nat) (x : G) : G := prd (ap xs i x) xs.length * inv (prd (ap xs i (xs.getD i 0)) xs.length)
theorem wg_prd (xs : List G) (i : Nat) (x : G) : ∀ k, wg xs i x k = prd (ap xs i x) k * inv (prd (ap xs i (xs.getD i 0)) k)
  | 0 => by rw [wg, prd, prd, inv_one, mul_one]
  | k + 1 => by
    rw [wg, prd, prd, wg_prd xs i x k, inv_mul, ap, ap]
    split
    · rw [inv_one, mul_one, mul_one]
    · ac_rfl
theorem wg_wq (xs : List G) (i : Nat) (x : G) : wg xs i x xs.length = wq xs i x := wg_prd xs i x _
/-- Is the point i there twice? -/
theorem ap_zero {xs : List G} {i : Nat} (_hi : i < xs.length) : prd (ap xs i (xs.getD i 0)) xs.length = 0 ↔ ∃ k, k < xs.length ∧ k ≠ i ∧ xs.getD k 0 = xs.getD i 0 := by
  constructor
  · intro h
    apply Classical.byContradiction
    intro hn
    refine prd_ne (f := ap xs i (xs.getD i 0)) xs.length (fun j hj e => ?_) h
    rw [ap] at e
    split at e
    · exact absurd e (by decide)
    · rename_i hji
      exact hn ⟨j, hj, hji, (eq_of_add e).symm⟩
  · rintro ⟨k, hk, hki, e⟩
    exact prd_zero _ hk (by rw [ap, if_neg hki, e, add_self])
theorem ap_nodup {xs : List G} : xs.Nodup ↔ ∀ i, i < xs.length → prd (ap xs i (xs.getD i 0)) xs.length ≠ 0 := by
  constructor
  · intro h i hi e
    obtain ⟨k, hk, hki, e'⟩ := (ap_zero hi).1 e
    exact getD_ne h hk hi hki e'
  · intro h
    rw [List.nodup_iff_pairwise_ne, List.pairwise_iff_getElem]
    intro i j hi hj hij e
    refine h j hj ((ap_zero hj).2 ⟨i, hi, by omega, ?_⟩)
    simpa [List.getD, List.getElem?_eq_getElem hi, List.getElem?_eq_getElem hj] using e

/-- A polynomial's value, by powers: of the first i coefficients. -/
def evs (p : List G) (x : G) : Nat → G
  | 0 => 0
  | i + 1 => evs p x i + p.getD i 0 * gpw x i
theorem ev_drop (p : List G) (x : G) : ∀ i, i ≤ p.length → ev p x = evs p x i + gpw x i * ev (p.drop i) x
  | 0, _ => by rw [evs, gpw, zero_add, one_mul, List.drop_zero]
  | i + 1, h => by
    rw [ev_drop p x i (by omega), List.drop_eq_getElem_cons (show i < p.length by omega), ev, evs, gpw, mul_add]
    have e : p.getD i 0 = p[i] := by simp [List.getD, List.getElem?_eq_getElem (show i < p.length by omega)]
    rw [e]
    ac_rfl
theorem ev_evs (p : List G) (x : G) : evs p x p.length = ev p x := by
  rw [ev_drop p x p.length (Nat.le_refl _), List.drop_length, ev, mul_zero, add_zero]
theorem ev_deg (p : List G) {n : Nat} (h : p.length ≤ n) : Deg n (ev p) := ⟨p, h, fun _ => rfl⟩
/-- The sum of products. -/
def dot (a b : List G) : G := dt (fun i => a.getD i 0 * b.getD i 0) (min a.length b.length)
theorem dot_through {xs p : List G} (hn : xs.Nodup) (hp : p.length ≤ xs.length) (x : G) : dot (xs.map (ev p)) ((List.range xs.length).map (fun i => wq xs i x)) = ev p x := by
  rw [dot, ← through hn (ev_deg p hp) x]
  simp only [List.length_map, List.length_range, Nat.min_self]
  refine dt_congr _ fun i hi => ?_
  rw [wg_wq]
  simp [List.getD, hi]
end Go.Proofs.Ytbdmbhpmbklaiaa.Gf
