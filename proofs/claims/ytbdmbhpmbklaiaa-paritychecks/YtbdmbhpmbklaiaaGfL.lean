/- The field of 256 elements: polynomials, values at points settle them (plain mathematics). -/
import Derived.Test.YtbdmbhpmbklaiaaGf
namespace Go.Proofs.Ytbdmbhpmbklaiaa.Gf

def G : Type := Fin 256
instance : Add G := ⟨fun a b => ⟨a.1 ^^^ b.1, Nat.xor_lt_two_pow (n := 8) a.2 b.2⟩⟩
instance : Mul G := ⟨fun a b => ⟨gm a.1 b.1, gm_lt a.2 b.2⟩⟩
instance : OfNat G 0 := ⟨⟨0, by decide⟩⟩
instance : OfNat G 1 := ⟨⟨1, by decide⟩⟩
instance : Inhabited G := ⟨0⟩
instance : DecidableEq G := inferInstanceAs (DecidableEq (Fin 256))
def inv (a : G) : G := ⟨iv a.1, iv_lt a.2⟩
theorem G.ext {a b : G} (h : a.1 = b.1) : a = b := Fin.ext h
theorem add_val (a b : G) : (a + b).1 = a.1 ^^^ b.1 := rfl
theorem mul_val (a b : G) : (a * b).1 = gm a.1 b.1 := rfl
theorem add_comm (a b : G) : a + b = b + a := G.ext (Nat.xor_comm _ _)
theorem add_assoc (a b c : G) : a + b + c = a + (b + c) := G.ext (Nat.xor_assoc _ _ _)
theorem add_zero (a : G) : a + 0 = a := G.ext (Nat.xor_zero _)
theorem zero_add (a : G) : 0 + a = a := G.ext (Nat.zero_xor _)
theorem add_self (a : G) : a + a = 0 := G.ext (Nat.xor_self _)
theorem mul_comm (a b : G) : a * b = b * a := G.ext (gm_comm a.2 b.2)
theorem mul_assoc (a b c : G) : a * b * c = a * (b * c) := G.ext (gm_assoc a.2 b.2 c.2).symm
theorem mul_add (a b c : G) : a * (b + c) = a * b + a * c := G.ext (gm_right _ _ _)
theorem add_mul (a b c : G) : (a + b) * c = a * c + b * c := G.ext (gm_left _ _ _)
theorem mul_zero (a : G) : a * 0 = 0 := G.ext (gm_zero _)
theorem zero_mul (a : G) : 0 * a = 0 := G.ext (zero_gm _)
theorem mul_one (a : G) : a * 1 = a := G.ext (gm_one a)
theorem one_mul (a : G) : 1 * a = a := by rw [mul_comm, mul_one]
theorem mul_inv {a : G} (h : a ≠ 0) : a * inv a = 1 := G.ext (iv_one a fun h0 => h (G.ext h0))
instance : Std.Commutative (α := G) (· + ·) := ⟨add_comm⟩
instance : Std.Associative (α := G) (· + ·) := ⟨add_assoc⟩
instance : Std.Commutative (α := G) (· * ·) := ⟨mul_comm⟩
instance : Std.Associative (α := G) (· * ·) := ⟨mul_assoc⟩
theorem eq_of_add {a b : G} (h : a + b = 0) : a = b := by
  have : a + b + b = b := by rw [h, zero_add]
  rwa [add_assoc, add_self, add_zero] at this
theorem add_ne {a b : G} (h : a ≠ b) : a + b ≠ 0 := fun h0 => h (eq_of_add h0)
theorem mul_eq_zero {a b : G} (ha : a ≠ 0) (h : a * b = 0) : b = 0 := by
  have : inv a * (a * b) = 0 := by rw [h, mul_zero]
  rwa [← mul_assoc, mul_comm (inv a) a, mul_inv ha, one_mul] at this

/-- A polynomial's value. -/
def ev : List G → G → G
  | [], _ => 0
  | c :: p, x => c + x * ev p x
theorem div (a : G) : ∀ (p : List G) (n : Nat), p.length ≤ n + 1 → ∃ q : List G, q.length ≤ n ∧ ∀ x, ev p x = ev p a + (x + a) * ev q x
  | [], n, _ => ⟨[], Nat.zero_le _, fun x => by simp only [ev, mul_zero, add_zero]⟩
  | [c], 0, _ => ⟨[], Nat.le_refl _, fun x => by simp only [ev, mul_zero, add_zero]⟩
  | c :: d :: p, 0, h => by simp at h
  | c :: p, n + 1, h => by
    obtain ⟨q, hq, hx⟩ := div a p n (by simpa using h)
    refine ⟨ev p a :: q, by simpa using hq, fun x => ?_⟩
    have h1 := hx x
    simp only [ev]
    rw [h1]
    generalize ev q x = u
    generalize ev p a = e
    have h2 : c + a * e + (x + a) * (e + x * u) = (a * e + a * e) + (c + x * e + (x + a) * (x * u)) := by
      rw [mul_add, add_mul x a e]
      ac_rfl
    rw [h2, add_self, zero_add, mul_add, ← mul_assoc x (x + a) u, mul_comm x (x + a), mul_assoc, add_assoc]
/-- As many points as there are coefficients, at which all is zero: it is zero everywhere. -/
theorem zeros : ∀ (xs p : List G), xs.Nodup → p.length ≤ xs.length → (∀ x ∈ xs, ev p x = 0) → ∀ x, ev p x = 0
  | [], p, _, hl, _, x => by
    have : p = [] := List.eq_nil_of_length_eq_zero (by simpa using hl)
    subst this
    rfl
  | a :: xs, p, hn, hl, h0, x => by
    obtain ⟨q, hq, hx⟩ := div a p xs.length (by simpa using hl)
    have ha : ev p a = 0 := h0 a (by simp)
    have hn' := List.nodup_cons.1 hn
    have hz : ∀ y ∈ xs, ev q y = 0 := fun y hy => by
      have h1 := hx y
      rw [h0 y (by simp [hy]), ha, zero_add] at h1
      exact mul_eq_zero (add_ne (fun e => hn'.1 (by rw [← e]; exact hy))) h1.symm
    rw [hx x, ha, zeros xs q hn'.2 hq hz x, mul_zero, add_zero]
def addP : List G → List G → List G
  | [], q => q
  | p, [] => p
  | a :: p, b :: q => (a + b) :: addP p q
theorem addP_len : ∀ (p q : List G) (n : Nat), p.length ≤ n → q.length ≤ n → (addP p q).length ≤ n
  | [], q, n, _, hq => by simpa [addP] using hq
  | a :: p, [], n, hp, _ => by simpa [addP] using hp
  | a :: p, b :: q, 0, hp, _ => by simp at hp
  | a :: p, b :: q, n + 1, hp, hq => by
    simp only [addP, List.length_cons]
    have := addP_len p q n (by simpa using hp) (by simpa using hq)
    omega
theorem addP_ev (x : G) : ∀ (p q : List G), ev (addP p q) x = ev p x + ev q x
  | [], q => by simp only [addP, ev, zero_add]
  | a :: p, [] => by simp only [addP, ev, add_zero]
  | a :: p, b :: q => by
    simp only [addP, ev, addP_ev x p q, mul_add]
    ac_rfl
theorem map_ev (c x : G) : ∀ (p : List G), ev (p.map (c * ·)) x = c * ev p x
  | [] => by simp only [List.map, ev, mul_zero]
  | a :: p => by
    simp only [List.map, ev, map_ev c x p, mul_add]
    congr 1
    ac_rfl
/-- f is the value of a polynomial of at most n coefficients. -/
def Deg (n : Nat) (f : G → G) : Prop := ∃ p : List G, p.length ≤ n ∧ ∀ x, f x = ev p x
theorem Deg.mono {n m : Nat} {f : G → G} (h : Deg n f) (hm : n ≤ m) : Deg m f := by
  obtain ⟨p, hl, hp⟩ := h
  exact ⟨p, by omega, hp⟩
theorem Deg.add {n : Nat} {f g : G → G} (hf : Deg n f) (hg : Deg n g) : Deg n (fun x => f x + g x) := by
  obtain ⟨p, hl, hp⟩ := hf
  obtain ⟨q, hl', hq⟩ := hg
  exact ⟨addP p q, addP_len p q n hl hl', fun x => by simp only [addP_ev, hp, hq]⟩
theorem Deg.smul {n : Nat} {f : G → G} (c : G) (hf : Deg n f) : Deg n (fun x => c * f x) := by
  obtain ⟨p, hl, hp⟩ := hf
  exact ⟨p.map (c * ·), by simpa using hl, fun x => by simp only [map_ev, hp]⟩
theorem Deg.mulLin {n : Nat} {f : G → G} (a : G) (hf : Deg n f) : Deg (n + 1) (fun x => (x + a) * f x) := by
  obtain ⟨p, hl, hp⟩ := hf
  refine ⟨addP (0 :: p) (p.map (a * ·)), addP_len _ _ _ (by simpa using hl) (by simp; omega), fun x => ?_⟩
  simp only [addP_ev, map_ev, hp, add_mul, ev, zero_add]
theorem Deg.const (c : G) : Deg 1 (fun _ => c) := ⟨[c], Nat.le_refl _, fun x => by simp only [ev, mul_zero, add_zero]⟩
theorem Deg.zero (n : Nat) : Deg n (fun _ => 0) := ⟨[], Nat.zero_le _, fun _ => rfl⟩

/-- How much the point i counts at x: the product over the first k points. -/
def wg (xs : List G) (i : Nat) (x : G) : Nat → G
  | 0 => 1
  | k + 1 => if k = i then wg xs i x k else wg xs i x k * ((x + xs.getD k 0) * inv (xs.getD i 0 + xs.getD k 0))
def dt (f : Nat → G) : Nat → G
  | 0 => 0
  | i + 1 => dt f i + f i
theorem wg_deg (xs : List G) (i : Nat) : ∀ k, (k ≤ i → Deg (k + 1) (fun x => wg xs i x k)) ∧ (i < k → Deg k (fun x => wg xs i x k))
  | 0 => ⟨fun _ => Deg.const 1, fun h => by omega⟩
  | k + 1 => by
    obtain ⟨h1, h2⟩ := wg_deg xs i k
    have step : ∀ n, Deg n (fun x => wg xs i x k) → Deg (n + 1) (fun x => wg xs i x k * ((x + xs.getD k 0) * inv (xs.getD i 0 + xs.getD k 0))) := fun n hd => by
      have := (hd.smul (inv (xs.getD i 0 + xs.getD k 0))).mulLin (xs.getD k 0)
      refine this.imp fun p hp => ⟨hp.1, fun x => ?_⟩
      rw [← hp.2 x]
      ac_rfl
    refine ⟨fun hk => ?_, fun hk => ?_⟩
    · have e : ∀ x, wg xs i x (k + 1) = wg xs i x k * ((x + xs.getD k 0) * inv (xs.getD i 0 + xs.getD k 0)) := fun x => by rw [wg, if_neg (by omega)]
      simp only [e]
      exact step _ (h1 (by omega))
    · by_cases hi : k = i
      · have e : ∀ x, wg xs i x (k + 1) = wg xs i x k := fun x => by rw [wg, if_pos hi]
        simp only [e]
        exact h1 (by omega)
      · have e : ∀ x, wg xs i x (k + 1) = wg xs i x k * ((x + xs.getD k 0) * inv (xs.getD i 0 + xs.getD k 0)) := fun x => by rw [wg, if_neg hi]
        simp only [e]
        exact step _ (h2 (by omega))
theorem getD_ne {xs : List G} (hn : xs.Nodup) {i j : Nat} (hi : i < xs.length) (hj : j < xs.length) (h : i ≠ j) : xs.getD i 0 ≠ xs.getD j 0 := by
  intro e
  simp only [List.getD, List.getElem?_eq_getElem hi, List.getElem?_eq_getElem hj, Option.getD_some] at e
  exact h ((List.getElem_inj hn).1 e)
theorem wg_own {xs : List G} (hn : xs.Nodup) {i : Nat} (hi : i < xs.length) : ∀ k, k ≤ xs.length → wg xs i (xs.getD i 0) k = 1
  | 0, _ => rfl
  | k + 1, hk => by
    rw [wg, wg_own hn hi k (by omega)]
    split
    · rfl
    · rw [mul_inv (add_ne (getD_ne hn hi (by omega) (by omega))), mul_one]
theorem wg_other {xs : List G} {i j : Nat} (h : j ≠ i) : ∀ k, j < k → wg xs i (xs.getD j 0) k = 0
  | 0, hj => by omega
  | k + 1, hj => by
    rw [wg]
    by_cases hk : j = k
    · subst hk
      rw [if_neg h, add_self, zero_mul, mul_zero]
    · have := wg_other (xs := xs) h k (by omega)
      split
      · exact this
      · rw [this, zero_mul]
theorem dt_congr {f g : Nat → G} : ∀ n, (∀ i, i < n → f i = g i) → dt f n = dt g n
  | 0, _ => rfl
  | n + 1, h => by rw [dt, dt, dt_congr n (fun i hi => h i (by omega)), h n (by omega)]
theorem dt_one {f : Nat → G} {j : Nat} : ∀ n, j < n → (∀ i, i < n → i ≠ j → f i = 0) → dt f n = f j
  | 0, hj, _ => by omega
  | n + 1, hj, h => by
    rw [dt]
    by_cases hn : j = n
    · subst hn
      have : dt f j = 0 := by
        have e : dt f j = dt (fun _ => 0) j := dt_congr j fun i hi => h i (by omega) (by omega)
        rw [e]
        clear e h hj
        induction j with
        | zero => rfl
        | succ j ih => rw [dt, ih, add_zero]
      rw [this, zero_add]
    · rw [dt_one n (by omega) (fun i hi => h i (by omega)), h n (by omega) (fun e => hn e.symm), add_zero]
theorem dt_deg {m : Nat} {f : Nat → G → G} : ∀ n, (∀ i, i < n → Deg m (f i)) → Deg m (fun x => dt (fun i => f i x) n)
  | 0, _ => Deg.zero m
  | n + 1, h => (dt_deg n (fun i hi => h i (by omega))).add (h n (by omega))
/-- The values at some points, by their weights, are the value elsewhere. -/
theorem through {xs : List G} (hn : xs.Nodup) {f : G → G} (hf : Deg xs.length f) (x : G) :
    dt (fun i => f (xs.getD i 0) * wg xs i x xs.length) xs.length = f x := by
  have hg : Deg xs.length (fun x => f x + dt (fun i => f (xs.getD i 0) * wg xs i x xs.length) xs.length) :=
    hf.add (dt_deg (f := fun i x => f (xs.getD i 0) * wg xs i x xs.length) _ fun i hi => ((wg_deg xs i xs.length).2 hi).smul _)
  obtain ⟨p, hl, hp⟩ := hg
  have h0 : ∀ y ∈ xs, ev p y = 0 := fun y hy => by
    rw [← hp y]
    obtain ⟨j, hj, rfl⟩ := List.mem_iff_getElem.1 hy
    have e : xs[j] = xs.getD j 0 := by simp [List.getD, List.getElem?_eq_getElem hj]
    simp only [e]
    rw [dt_one xs.length hj (fun i hi hij => by rw [wg_other (fun h => hij h.symm) _ hj, mul_zero]), wg_own hn hj _ (Nat.le_refl _), mul_one, add_self]
  have := zeros xs p hn hl h0 x
  rw [← hp x] at this
  exact (eq_of_add this).symm
/-- Two that are alike at as many points as there are coefficients are alike everywhere. -/
theorem agree {k : Nat} {f g : G → G} (hf : Deg k f) (hg : Deg k g) {xs : List G} (hn : xs.Nodup) (hl : k ≤ xs.length) (h : ∀ x ∈ xs, f x = g x) (x : G) : f x = g x := by
  obtain ⟨p, hpl, hp⟩ := hf.add hg
  have := zeros xs p hn (by omega) (fun y hy => by rw [← hp y]; simp only [h y hy, add_self]) x
  rw [← hp x] at this
  exact eq_of_add this
/-- The polynomial through some values at some points. -/
def ip (xs : List G) (v : Nat → G) (x : G) : G := dt (fun i => v i * wg xs i x xs.length) xs.length
theorem ip_deg (xs : List G) (v : Nat → G) : Deg xs.length (ip xs v) :=
  dt_deg (f := fun i x => v i * wg xs i x xs.length) _ fun i hi => ((wg_deg xs i xs.length).2 hi).smul _
theorem ip_at {xs : List G} (hn : xs.Nodup) (v : Nat → G) {j : Nat} (hj : j < xs.length) : ip xs v (xs.getD j 0) = v j := by
  unfold ip
  rw [dt_one xs.length hj (fun i hi hij => by rw [wg_other (fun h => hij h.symm) _ hj, mul_zero]), wg_own hn hj _ (Nat.le_refl _), mul_one]
/-- Whatever points settle it. -/
theorem ip_eq {k : Nat} {xs : List G} (hn : xs.Nodup) (hl : xs.length = k) {f : G → G} (hf : Deg k f) {v : Nat → G} (hv : ∀ j, j < k → v j = f (xs.getD j 0)) (x : G) : ip xs v x = f x := by
  subst hl
  refine agree (ip_deg xs v) hf hn (Nat.le_refl _) (fun y hy => ?_) x
  obtain ⟨j, hj, rfl⟩ := List.mem_iff_getElem.1 hy
  have e : xs[j] = xs.getD j 0 := by simp [List.getD, List.getElem?_eq_getElem hj]
  rw [e, ip_at hn v hj, hv j hj]
theorem dt_add (f g : Nat → G) : ∀ n, dt (fun i => f i + g i) n = dt f n + dt g n
  | 0 => (add_zero 0).symm
  | n + 1 => by
    rw [dt, dt, dt, dt_add f g n]
    ac_rfl
theorem ip_add (xs : List G) (u v : Nat → G) (x : G) : ip xs (fun i => u i + v i) x = ip xs u x + ip xs v x := by
  unfold ip
  rw [← dt_add]
  exact dt_congr _ fun i _ => add_mul _ _ _
end Go.Proofs.Ytbdmbhpmbklaiaa.Gf
