/- Texts joined into one: Gf, GfL, GfP. -/
/- The field of 256 elements (plain mathematics): products, their laws, what makes 1. -/
namespace Go.Proofs.Ytbdmbhpmbklaiaa.Gf

def cl (a b : Nat) : Nat → Nat
  | 0 => 0
  | i + 1 => cl a b i ^^^ (if b.testBit i then a <<< i else 0)
def rd (n : Nat) : Nat → Nat
  | 0 => n
  | t + 1 => rd n t ^^^ (if (rd n t).testBit (14 - t) then 285 <<< (6 - t) else 0)
/-- The product. -/
def gm (a b : Nat) : Nat := rd (cl a b 8) 7

theorem ite_xor (p q : Bool) (v : Nat) : (if (p ^^ q) then v else 0) = (if p then v else 0) ^^^ (if q then v else 0) := by
  cases p <;> cases q <;> simp
theorem xor4 (a b c d : Nat) : (a ^^^ b) ^^^ (c ^^^ d) = (a ^^^ c) ^^^ (b ^^^ d) := by
  ac_rfl
theorem ite_xor2 (p : Bool) (u v : Nat) : (if p then u ^^^ v else 0) = (if p then u else 0) ^^^ (if p then v else 0) := by
  cases p <;> simp
theorem cl_right (a b c : Nat) : ∀ i, cl a (b ^^^ c) i = cl a b i ^^^ cl a c i
  | 0 => by simp [cl]
  | i + 1 => by rw [cl, cl, cl, cl_right a b c i, Nat.testBit_xor, ite_xor, xor4]
theorem cl_left (a b c : Nat) : ∀ i, cl (a ^^^ b) c i = cl a c i ^^^ cl b c i
  | 0 => by simp [cl]
  | i + 1 => by rw [cl, cl, cl, cl_left a b c i, Nat.shiftLeft_xor_distrib, ite_xor2, xor4]
theorem rd_xor (m n : Nat) : ∀ t, rd (m ^^^ n) t = rd m t ^^^ rd n t
  | 0 => rfl
  | t + 1 => by rw [rd, rd, rd, rd_xor m n t, Nat.testBit_xor, ite_xor, xor4]
theorem gm_right (a b c : Nat) : gm a (b ^^^ c) = gm a b ^^^ gm a c := by unfold gm; rw [cl_right, rd_xor]
theorem gm_left (a b c : Nat) : gm (a ^^^ b) c = gm a c ^^^ gm b c := by unfold gm; rw [cl_left, rd_xor]

/-- What takes sums to sums. -/
structure Adt (f : Nat → Nat) : Prop where
  add : ∀ x y, f (x ^^^ y) = f x ^^^ f y
theorem Adt.zero {f : Nat → Nat} (h : Adt f) : f 0 = 0 := by
  have := h.add 0 0
  simp at this
  exact this
def lin (f : Nat → Nat) (a : Nat) : Nat → Nat
  | 0 => 0
  | i + 1 => lin f a i ^^^ (if a.testBit i then f (2 ^ i) else 0)
theorem Adt.lin {f : Nat → Nat} (h : Adt f) (a : Nat) : ∀ i, f (lin (fun x => x) a i) = Gf.lin f a i
  | 0 => h.zero
  | i + 1 => by
    rw [Gf.lin, Gf.lin, h.add, h.lin a i]
    cases a.testBit i <;> simp [h.zero]
set_option maxRecDepth 100000 in
theorem lin_id : ∀ a : Fin 256, lin (fun x => x) a.1 8 = a.1 := by decide
theorem Adt.at {f : Nat → Nat} (h : Adt f) {a : Nat} (ha : a < 256) : f a = Gf.lin f a 8 := by
  rw [← h.lin a 8, lin_id ⟨a, ha⟩]
theorem lin_same {f g : Nat → Nat} (a : Nat) (h : ∀ i, i < 8 → f (2 ^ i) = g (2 ^ i)) : ∀ i, i ≤ 8 → lin f a i = lin g a i
  | 0, _ => rfl
  | i + 1, hi => by rw [lin, lin, lin_same a h i (by omega), h i (by omega)]
theorem Adt.same {f g : Nat → Nat} (hf : Adt f) (hg : Adt g) (h : ∀ i, i < 8 → f (2 ^ i) = g (2 ^ i)) {a : Nat} (ha : a < 256) : f a = g a := by
  rw [hf.at ha, hg.at ha, lin_same a h 8 (Nat.le_refl _)]
theorem add_gmr (a : Nat) : Adt (gm a) := ⟨gm_right a⟩
theorem add_gml (b : Nat) : Adt (fun a => gm a b) := ⟨fun x y => gm_left x y b⟩
theorem Adt.comp {f g : Nat → Nat} (hf : Adt f) (hg : Adt g) : Adt (fun x => f (g x)) := ⟨fun x y => by simp only [hg.add, hf.add]⟩

theorem basis_lt : ∀ i j : Fin 8, gm (2 ^ i.1) (2 ^ j.1) < 256 := by decide
theorem basis_comm : ∀ i j : Fin 8, gm (2 ^ i.1) (2 ^ j.1) = gm (2 ^ j.1) (2 ^ i.1) := by decide
theorem basis_assoc : ∀ i j k : Fin 8, gm (2 ^ i.1) (gm (2 ^ j.1) (2 ^ k.1)) = gm (gm (2 ^ i.1) (2 ^ j.1)) (2 ^ k.1) := by decide
theorem lin_lt {f : Nat → Nat} (a : Nat) (h : ∀ i, i < 8 → f (2 ^ i) < 256) : ∀ i, i ≤ 8 → lin f a i < 256
  | 0, _ => by simp [lin]
  | i + 1, hi => by
    rw [lin]
    have h1 := lin_lt a h i (by omega)
    have h2 := h i (by omega)
    have : (if a.testBit i then f (2 ^ i) else 0) < 2 ^ 8 := by split <;> omega
    exact Nat.xor_lt_two_pow (n := 8) h1 this
theorem gm_lt {a b : Nat} (ha : a < 256) (hb : b < 256) : gm a b < 256 := by
  rw [(add_gmr a).at hb]
  refine lin_lt b (fun j hj => ?_) 8 (Nat.le_refl _)
  rw [(add_gml (2 ^ j)).at ha]
  exact lin_lt a (fun i hi => basis_lt ⟨i, hi⟩ ⟨j, hj⟩) 8 (Nat.le_refl _)
theorem gm_comm {a b : Nat} (ha : a < 256) (hb : b < 256) : gm a b = gm b a := by
  refine (add_gmr a).same (add_gml a) (fun j hj => ?_) hb
  exact (add_gml (2 ^ j)).same (add_gmr (2 ^ j)) (fun i hi => basis_comm ⟨i, hi⟩ ⟨j, hj⟩) ha
theorem gm_assoc {a b c : Nat} (ha : a < 256) (hb : b < 256) (hc : c < 256) : gm a (gm b c) = gm (gm a b) c := by
  refine ((add_gmr a).comp (add_gmr b)).same (add_gmr (gm a b)) (fun k hk => ?_) hc
  refine ((add_gmr a).comp (add_gml (2 ^ k))).same ((add_gml (2 ^ k)).comp (add_gmr a)) (fun j hj => ?_) hb
  exact (add_gml (gm (2 ^ j) (2 ^ k))).same ((add_gml (2 ^ k)).comp (add_gml (2 ^ j))) (fun i hi => basis_assoc ⟨i, hi⟩ ⟨j, hj⟩ ⟨k, hk⟩) ha
theorem gm_zero (a : Nat) : gm a 0 = 0 := (add_gmr a).zero
theorem zero_gm (a : Nat) : gm 0 a = 0 := (add_gml a).zero
set_option maxRecDepth 100000 in
theorem gm_one : ∀ a : Fin 256, gm a.1 1 = a.1 := by decide

/-- a taken n times as a factor. -/
def gp (a : Nat) : Nat → Nat
  | 0 => 1
  | n + 1 => gm (gp a n) a
def sq (a : Nat) : Nat := gm a a
/-- a to the power 254, by squares. -/
def iv (a : Nat) : Nat :=
  let a2 := sq a
  let a4 := sq a2
  let a8 := sq a4
  let a16 := sq a8
  let a32 := sq a16
  let a64 := sq a32
  let a128 := sq a64
  gm (gm (gm (gm (gm (gm a2 a4) a8) a16) a32) a64) a128
set_option maxRecDepth 100000 in
theorem iv_one : ∀ a : Fin 256, a.1 ≠ 0 → gm a.1 (iv a.1) = 1 := by decide
set_option maxRecDepth 100000 in
theorem iv_zero : iv 0 = 0 := by decide
theorem iv_lt {a : Nat} (ha : a < 256) : iv a < 256 := by
  have s : ∀ {x : Nat}, x < 256 → sq x < 256 := fun h => gm_lt h h
  unfold iv
  exact gm_lt (gm_lt (gm_lt (gm_lt (gm_lt (gm_lt (s ha) (s (s ha))) (s (s (s ha)))) (s (s (s (s ha))))) (s (s (s (s (s ha)))))) (s (s (s (s (s (s ha))))))) (s (s (s (s (s (s (s ha)))))))
end Go.Proofs.Ytbdmbhpmbklaiaa.Gf

/- The field of 256 elements: polynomials, values at points settle them (plain mathematics). -/
namespace Go.Proofs.Ytbdmbhpmbklaiaa.Gf

def G : Type := Fin 256
instance : Add G := ⟨fun a b => ⟨a.1 ^^^ b.1, Nat.xor_lt_two_pow (n := 8) a.2 b.2⟩⟩
instance : Mul G := ⟨fun a b => ⟨gm a.1 b.1, gm_lt a.2 b.2⟩⟩
instance : OfNat G 0 := ⟨⟨0, by decide⟩⟩
instance : OfNat G 1 := ⟨⟨1, by decide⟩⟩
instance : Inhabited G := ⟨0⟩
instance : DecidableEq G := inferInstanceAs (DecidableEq (Fin 256))
def inv (a : G) : G := ⟨iv a.1, iv_lt a.2⟩
theorem G.ext {a b : G} (h : a.1 = b.1) : a = b := Fin.ext h
theorem add_val (a b : G) : (a + b).1 = a.1 ^^^ b.1 := rfl
theorem mul_val (a b : G) : (a * b).1 = gm a.1 b.1 := rfl
theorem add_comm (a b : G) : a + b = b + a := G.ext (Nat.xor_comm _ _)
theorem add_assoc (a b c : G) : a + b + c = a + (b + c) := G.ext (Nat.xor_assoc _ _ _)
theorem add_zero (a : G) : a + 0 = a := G.ext (Nat.xor_zero _)
theorem zero_add (a : G) : 0 + a = a := G.ext (Nat.zero_xor _)
theorem add_self (a : G) : a + a = 0 := G.ext (Nat.xor_self _)
theorem mul_comm (a b : G) : a * b = b * a := G.ext (gm_comm a.2 b.2)
theorem mul_assoc (a b c : G) : a * b * c = a * (b * c) := G.ext (gm_assoc a.2 b.2 c.2).symm
theorem mul_add (a b c : G) : a * (b + c) = a * b + a * c := G.ext (gm_right _ _ _)
theorem add_mul (a b c : G) : (a + b) * c = a * c + b * c := G.ext (gm_left _ _ _)
theorem mul_zero (a : G) : a * 0 = 0 := G.ext (gm_zero _)
theorem zero_mul (a : G) : 0 * a = 0 := G.ext (zero_gm _)
theorem mul_one (a : G) : a * 1 = a := G.ext (gm_one a)
theorem one_mul (a : G) : 1 * a = a := by rw [mul_comm, mul_one]
theorem mul_inv {a : G} (h : a ≠ 0) : a * inv a = 1 := G.ext (iv_one a fun h0 => h (G.ext h0))
instance : Std.Commutative (α := G) (· + ·) := ⟨add_comm⟩
instance : Std.Associative (α := G) (· + ·) := ⟨add_assoc⟩
instance : Std.Commutative (α := G) (· * ·) := ⟨mul_comm⟩
instance : Std.Associative (α := G) (· * ·) := ⟨mul_assoc⟩
theorem eq_of_add {a b : G} (h : a + b = 0) : a = b := by
  have : a + b + b = b := by rw [h, zero_add]
  rwa [add_assoc, add_self, add_zero] at this
theorem add_ne {a b : G} (h : a ≠ b) : a + b ≠ 0 := fun h0 => h (eq_of_add h0)
theorem mul_eq_zero {a b : G} (ha : a ≠ 0) (h : a * b = 0) : b = 0 := by
  have : inv a * (a * b) = 0 := by rw [h, mul_zero]
  rwa [← mul_assoc, mul_comm (inv a) a, mul_inv ha, one_mul] at this

/-- A polynomial's value. -/
def ev : List G → G → G
  | [], _ => 0
  | c :: p, x => c + x * ev p x
theorem div (a : G) : ∀ (p : List G) (n : Nat), p.length ≤ n + 1 → ∃ q : List G, q.length ≤ n ∧ ∀ x, ev p x = ev p a + (x + a) * ev q x
  | [], n, _ => ⟨[], Nat.zero_le _, fun x => by simp only [ev, mul_zero, add_zero]⟩
  | [c], 0, _ => ⟨[], Nat.le_refl _, fun x => by simp only [ev, mul_zero, add_zero]⟩
  | c :: d :: p, 0, h => by simp at h
  | c :: p, n + 1, h => by
    obtain ⟨q, hq, hx⟩ := div a p n (by simpa using h)
    refine ⟨ev p a :: q, by simpa using hq, fun x => ?_⟩
    have h1 := hx x
    simp only [ev]
    rw [h1]
    generalize ev q x = u
    generalize ev p a = e
    have h2 : c + a * e + (x + a) * (e + x * u) = (a * e + a * e) + (c + x * e + (x + a) * (x * u)) := by
      rw [mul_add, add_mul x a e]
      ac_rfl
    rw [h2, add_self, zero_add, mul_add, ← mul_assoc x (x + a) u, mul_comm x (x + a), mul_assoc, add_assoc]
/-- As many points as there are coefficients, at which all is zero: it is zero everywhere. -/
theorem zeros : ∀ (xs p : List G), xs.Nodup → p.length ≤ xs.length → (∀ x ∈ xs, ev p x = 0) → ∀ x, ev p x = 0
  | [], p, _, hl, _, x => by
    have : p = [] := List.eq_nil_of_length_eq_zero (by simpa using hl)
    subst this
    rfl
  | a :: xs, p, hn, hl, h0, x => by
    obtain ⟨q, hq, hx⟩ := div a p xs.length (by simpa using hl)
    have ha : ev p a = 0 := h0 a (by simp)
    have hn' := List.nodup_cons.1 hn
    have hz : ∀ y ∈ xs, ev q y = 0 := fun y hy => by
      have h1 := hx y
      rw [h0 y (by simp [hy]), ha, zero_add] at h1
      exact mul_eq_zero (add_ne (fun e => hn'.1 (by rw [← e]; exact hy))) h1.symm
    rw [hx x, ha, zeros xs q hn'.2 hq hz x, mul_zero, add_zero]
def addP : List G → List G → List G
  | [], q => q
  | p, [] => p
  | a :: p, b :: q => (a + b) :: addP p q
theorem addP_len : ∀ (p q : List G) (n : Nat), p.length ≤ n → q.length ≤ n → (addP p q).length ≤ n
  | [], q, n, _, hq => by simpa [addP] using hq
  | a :: p, [], n, hp, _ => by simpa [addP] using hp
  | a :: p, b :: q, 0, hp, _ => by simp at hp
  | a :: p, b :: q, n + 1, hp, hq => by
    simp only [addP, List.length_cons]
    have := addP_len p q n (by simpa using hp) (by simpa using hq)
    omega
theorem addP_ev (x : G) : ∀ (p q : List G), ev (addP p q) x = ev p x + ev q x
  | [], q => by simp only [addP, ev, zero_add]
  | a :: p, [] => by simp only [addP, ev, add_zero]
  | a :: p, b :: q => by
    simp only [addP, ev, addP_ev x p q, mul_add]
    ac_rfl
theorem map_ev (c x : G) : ∀ (p : List G), ev (p.map (c * ·)) x = c * ev p x
  | [] => by simp only [List.map, ev, mul_zero]
  | a :: p => by
    simp only [List.map, ev, map_ev c x p, mul_add]
    congr 1
    ac_rfl
/-- f is the value of a polynomial of at most n coefficients. -/
def Deg (n : Nat) (f : G → G) : Prop := ∃ p : List G, p.length ≤ n ∧ ∀ x, f x = ev p x
theorem Deg.mono {n m : Nat} {f : G → G} (h : Deg n f) (hm : n ≤ m) : Deg m f := by
  obtain ⟨p, hl, hp⟩ := h
  exact ⟨p, by omega, hp⟩
theorem Deg.add {n : Nat} {f g : G → G} (hf : Deg n f) (hg : Deg n g) : Deg n (fun x => f x + g x) := by
  obtain ⟨p, hl, hp⟩ := hf
  obtain ⟨q, hl', hq⟩ := hg
  exact ⟨addP p q, addP_len p q n hl hl', fun x => by simp only [addP_ev, hp, hq]⟩
theorem Deg.smul {n : Nat} {f : G → G} (c : G) (hf : Deg n f) : Deg n (fun x => c * f x) := by
  obtain ⟨p, hl, hp⟩ := hf
  exact ⟨p.map (c * ·), by simpa using hl, fun x => by simp only [map_ev, hp]⟩
theorem Deg.mulLin {n : Nat} {f : G → G} (a : G) (hf : Deg n f) : Deg (n + 1) (fun x => (x + a) * f x) := by
  obtain ⟨p, hl, hp⟩ := hf
  refine ⟨addP (0 :: p) (p.map (a * ·)), addP_len _ _ _ (by simpa using hl) (by simp; omega), fun x => ?_⟩
  simp only [addP_ev, map_ev, hp, add_mul, ev, zero_add]
theorem Deg.const (c : G) : Deg 1 (fun _ => c) := ⟨[c], Nat.le_refl _, fun x => by simp only [ev, mul_zero, add_zero]⟩
theorem Deg.zero (n : Nat) : Deg n (fun _ => 0) := ⟨[], Nat.zero_le _, fun _ => rfl⟩

/-- How much the point i counts at x: the product over the first k points. -/
def wg (xs : List G) (i : Nat) (x : G) : Nat → G
  | 0 => 1
  | k + 1 => if k = i then wg xs i x k else wg xs i x k * ((x + xs.getD k 0) * inv (xs.getD i 0 + xs.getD k 0))
def dt (f : Nat → G) : Nat → G
  | 0 => 0
  | i + 1 => dt f i + f i
theorem wg_deg (xs : List G) (i : Nat) : ∀ k, (k ≤ i → Deg (k + 1) (fun x => wg xs i x k)) ∧ (i < k → Deg k (fun x => wg xs i x k))
  | 0 => ⟨fun _ => Deg.const 1, fun h => by omega⟩
  | k + 1 => by
    obtain ⟨h1, h2⟩ := wg_deg xs i k
    have step : ∀ n, Deg n (fun x => wg xs i x k) → Deg (n + 1) (fun x => wg xs i x k * ((x + xs.getD k 0) * inv (xs.getD i 0 + xs.getD k 0))) := fun n hd => by
      have := (hd.smul (inv (xs.getD i 0 + xs.getD k 0))).mulLin (xs.getD k 0)
      refine this.imp fun p hp => ⟨hp.1, fun x => ?_⟩
      rw [← hp.2 x]
      ac_rfl
    refine ⟨fun hk => ?_, fun hk => ?_⟩
    · have e : ∀ x, wg xs i x (k + 1) = wg xs i x k * ((x + xs.getD k 0) * inv (xs.getD i 0 + xs.getD k 0)) := fun x => by rw [wg, if_neg (by omega)]
      simp only [e]
      exact step _ (h1 (by omega))
    · by_cases hi : k = i
      · have e : ∀ x, wg xs i x (k + 1) = wg xs i x k := fun x => by rw [wg, if_pos hi]
        simp only [e]
        exact h1 (by omega)
      · have e : ∀ x, wg xs i x (k + 1) = wg xs i x k * ((x + xs.getD k 0) * inv (xs.getD i 0 + xs.getD k 0)) := fun x => by rw [wg, if_neg hi]
        simp only [e]
        exact step _ (h2 (by omega))
theorem getD_ne {xs : List G} (hn : xs.Nodup) {i j : Nat} (hi : i < xs.length) (hj : j < xs.length) (h : i ≠ j) : xs.getD i 0 ≠ xs.getD j 0 := by
  intro e
  simp only [List.getD, List.getElem?_eq_getElem hi, List.getElem?_eq_getElem hj, Option.getD_some] at e
  exact h ((List.getElem_inj hn).1 e)
theorem wg_own {xs : List G} (hn : xs.Nodup) {i : Nat} (hi : i < xs.length) : ∀ k, k ≤ xs.length → wg xs i (xs.getD i 0) k = 1
  | 0, _ => rfl
  | k + 1, hk => by
    rw [wg, wg_own hn hi k (by omega)]
    split
    · rfl
    · rw [mul_inv (add_ne (getD_ne hn hi (by omega) (by omega))), mul_one]
theorem wg_other {xs : List G} {i j : Nat} (h : j ≠ i) : ∀ k, j < k → wg xs i (xs.getD j 0) k = 0
  | 0, hj => by omega
  | k + 1, hj => by
    rw [wg]
    by_cases hk : j = k
    · subst hk
      rw [if_neg h, add_self, zero_mul, mul_zero]
    · have := wg_other (xs := xs) h k (by omega)
      split
      · exact this
      · rw [this, zero_mul]
theorem dt_congr {f g : Nat → G} : ∀ n, (∀ i, i < n → f i = g i) → dt f n = dt g n
  | 0, _ => rfl
  | n + 1, h => by rw [dt, dt, dt_congr n (fun i hi => h i (by omega)), h n (by omega)]
theorem dt_one {f : Nat → G} {j : Nat} : ∀ n, j < n → (∀ i, i < n → i ≠ j → f i = 0) → dt f n = f j
  | 0, hj, _ => by omega
  | n + 1, hj, h => by
    rw [dt]
    by_cases hn : j = n
    · subst hn
      have : dt f j = 0 := by
        have e : dt f j = dt (fun _ => 0) j := dt_congr j fun i hi => h i (by omega) (by omega)
        rw [e]
        clear e h hj
        induction j with
        | zero => rfl
        | succ j ih => rw [dt, ih, add_zero]
      rw [this, zero_add]
    · rw [dt_one n (by omega) (fun i hi => h i (by omega)), h n (by omega) (fun e => hn e.symm), add_zero]
theorem dt_deg {m : Nat} {f : Nat → G → G} : ∀ n, (∀ i, i < n → Deg m (f i)) → Deg m (fun x => dt (fun i => f i x) n)
  | 0, _ => Deg.zero m
  | n + 1, h => (dt_deg n (fun i hi => h i (by omega))).add (h n (by omega))
/-- The values at some points, by their weights, are the value elsewhere. -/
theorem through {xs : List G} (hn : xs.Nodup) {f : G → G} (hf : Deg xs.length f) (x : G) :
    dt (fun i => f (xs.getD i 0) * wg xs i x xs.length) xs.length = f x := by
  have hg : Deg xs.length (fun x => f x + dt (fun i => f (xs.getD i 0) * wg xs i x xs.length) xs.length) :=
    hf.add (dt_deg (f := fun i x => f (xs.getD i 0) * wg xs i x xs.length) _ fun i hi => ((wg_deg xs i xs.length).2 hi).smul _)
  obtain ⟨p, hl, hp⟩ := hg
  have h0 : ∀ y ∈ xs, ev p y = 0 := fun y hy => by
    rw [← hp y]
    obtain ⟨j, hj, rfl⟩ := List.mem_iff_getElem.1 hy
    have e : xs[j] = xs.getD j 0 := by simp [List.getD, List.getElem?_eq_getElem hj]
    simp only [e]
    rw [dt_one xs.length hj (fun i hi hij => by rw [wg_other (fun h => hij h.symm) _ hj, mul_zero]), wg_own hn hj _ (Nat.le_refl _), mul_one, add_self]
  have := zeros xs p hn hl h0 x
  rw [← hp x] at this
  exact (eq_of_add this).symm
/-- Two that are alike at as many points as there are coefficients are alike everywhere. -/
theorem agree {k : Nat} {f g : G → G} (hf : Deg k f) (hg : Deg k g) {xs : List G} (hn : xs.Nodup) (hl : k ≤ xs.length) (h : ∀ x ∈ xs, f x = g x) (x : G) : f x = g x := by
  obtain ⟨p, hpl, hp⟩ := hf.add hg
  have := zeros xs p hn (by omega) (fun y hy => by rw [← hp y]; simp only [h y hy, add_self]) x
  rw [← hp x] at this
  exact eq_of_add this
/-- The polynomial through some values at some points. -/
def ip (xs : List G) (v : Nat → G) (x : G) : G := dt (fun i => v i * wg xs i x xs.length) xs.length
theorem ip_deg (xs : List G) (v : Nat → G) : Deg xs.length (ip xs v) :=
  dt_deg (f := fun i x => v i * wg xs i x xs.length) _ fun i hi => ((wg_deg xs i xs.length).2 hi).smul _
theorem ip_at {xs : List G} (hn : xs.Nodup) (v : Nat → G) {j : Nat} (hj : j < xs.length) : ip xs v (xs.getD j 0) = v j := by
  unfold ip
  rw [dt_one xs.length hj (fun i hi hij => by rw [wg_other (fun h => hij h.symm) _ hj, mul_zero]), wg_own hn hj _ (Nat.le_refl _), mul_one]
/-- Whatever points settle it. -/
theorem ip_eq {k : Nat} {xs : List G} (hn : xs.Nodup) (hl : xs.length = k) {f : G → G} (hf : Deg k f) {v : Nat → G} (hv : ∀ j, j < k → v j = f (xs.getD j 0)) (x : G) : ip xs v x = f x := by
  subst hl
  refine agree (ip_deg xs v) hf hn (Nat.le_refl _) (fun y hy => ?_) x
  obtain ⟨j, hj, rfl⟩ := List.mem_iff_getElem.1 hy
  have e : xs[j] = xs.getD j 0 := by simp [List.getD, List.getElem?_eq_getElem hj]
  rw [e, ip_at hn v hj, hv j hj]
theorem dt_add (f g : Nat → G) : ∀ n, dt (fun i => f i + g i) n = dt f n + dt g n
  | 0 => (add_zero 0).symm
  | n + 1 => by
    rw [dt, dt, dt, dt_add f g n]
    ac_rfl
theorem ip_add (xs : List G) (u v : Nat → G) (x : G) : ip xs (fun i => u i + v i) x = ip xs u x + ip xs v x := by
  unfold ip
  rw [← dt_add]
  exact dt_congr _ fun i _ => add_mul _ _ _
end Go.Proofs.Ytbdmbhpmbklaiaa.Gf

/- The field of 256 elements: products by doubling, powers by squares, weights by two products, values by powers (plain mathematics). -/
namespace Go.Proofs.Ytbdmbhpmbklaiaa.Gf

def dbl (s : Nat) : Nat := if 256 ≤ s * 2 then (s * 2) ^^^ 285 else s * 2
def shf (a : Nat) : Nat → Nat
  | 0 => a
  | i + 1 => dbl (shf a i)
def alf (a b : Nat) : Nat → Nat
  | 0 => 0
  | i + 1 => if b.testBit i then alf a b i ^^^ shf a i else alf a b i
set_option maxRecDepth 100000 in
theorem dbl_gm : ∀ s : Fin 256, dbl s.1 = gm s.1 2 := by decide
theorem two_up : ∀ i : Fin 7, gm (2 ^ i.1) 2 = 2 ^ (i.1 + 1) := by decide
theorem two_lt {i : Nat} (h : i < 8) : 2 ^ i < 256 := by
  have : 2 ^ i ≤ 2 ^ 7 := Nat.pow_le_pow_right (by decide) (by omega)
  omega
theorem shf_gm {a : Nat} (ha : a < 256) : ∀ i, i < 8 → shf a i = gm a (2 ^ i)
  | 0, _ => (gm_one ⟨a, ha⟩).symm
  | i + 1, h => by
    have h1 := shf_gm ha i (by omega)
    have h2 : gm a (2 ^ i) < 256 := gm_lt ha (two_lt (by omega))
    rw [shf, h1, dbl_gm ⟨_, h2⟩, ← gm_assoc ha (two_lt (by omega)) (by decide), two_up ⟨i, by omega⟩]
theorem shf_lt {a : Nat} (ha : a < 256) : ∀ i, shf a i < 256
  | 0 => ha
  | i + 1 => by
    have := shf_lt ha i
    rw [shf, dbl_gm ⟨_, this⟩]
    exact gm_lt this (by decide)
theorem alf_lt {a : Nat} (ha : a < 256) (b : Nat) : ∀ i, alf a b i < 256
  | 0 => by simp [alf]
  | i + 1 => by
    have h1 := alf_lt ha b i
    have h2 := shf_lt ha i
    rw [alf]
    split
    · exact Nat.xor_lt_two_pow (n := 8) h1 h2
    · exact h1
theorem alf_lin {a : Nat} (ha : a < 256) (b : Nat) : ∀ i, i ≤ 8 → alf a b i = lin (gm a) b i
  | 0, _ => rfl
  | i + 1, h => by
    rw [alf, lin, alf_lin ha b i (by omega), shf_gm ha i (by omega)]
    cases b.testBit i <;> simp
theorem alf_gm {a b : Nat} (ha : a < 256) (hb : b < 256) : alf a b 8 = gm a b := by
  rw [alf_lin ha b 8 (Nat.le_refl _), (add_gmr a).at hb]
theorem cl_lt {a : Nat} (ha : a < 256) (b : Nat) : ∀ i, i ≤ 8 → cl a b i < 32768
  | 0, _ => by simp [cl]
  | i + 1, h => by
    have h1 := cl_lt ha b i (by omega)
    rw [cl]
    refine Nat.xor_lt_two_pow (n := 15) h1 ?_
    split
    · rw [Nat.shiftLeft_eq]
      have := two_lt (show i < 8 by omega)
      have h3 : a * 2 ^ i ≤ 255 * 2 ^ i := Nat.mul_le_mul_right _ (by omega)
      have h4 : 2 ^ i ≤ 2 ^ 7 := Nat.pow_le_pow_right (by decide) (by omega)
      omega
    · decide
theorem rd_lt {n : Nat} (hn : n < 32768) : ∀ t, t ≤ 7 → rd n t < 32768
  | 0, _ => hn
  | t + 1, h => by
    have h1 := rd_lt hn t (by omega)
    rw [rd]
    refine Nat.xor_lt_two_pow (n := 15) h1 ?_
    split
    · rw [Nat.shiftLeft_eq]
      have h4 : 2 ^ (6 - t) ≤ 2 ^ 6 := Nat.pow_le_pow_right (by decide) (by omega)
      omega
    · decide

def ge (i : Nat) (h : i < 256) : G := Fin.mk i h
theorem ge_val (i : Nat) (h : i < 256) : (ge i h).1 = i := rfl
/-- Powers. -/
def gpw (a : G) : Nat → G
  | 0 => 1
  | n + 1 => gpw a n * a
theorem gpw_one (a : G) : gpw a 1 = a := one_mul a
theorem gpw_add (a : G) (m : Nat) : ∀ n, gpw a (m + n) = gpw a m * gpw a n
  | 0 => (mul_one _).symm
  | n + 1 => by rw [Nat.add_succ, gpw, gpw_add a m n, gpw, mul_assoc]
theorem one_gpw : ∀ n, gpw 1 n = 1
  | 0 => rfl
  | n + 1 => by rw [gpw, one_gpw n, mul_one]
theorem zero_gpw {n : Nat} (h : 0 < n) : gpw 0 n = 0 := by
  cases n with
  | zero => omega
  | succ n => rw [gpw, mul_zero]
theorem gpw_mul (a : G) (m : Nat) : ∀ n, gpw a (m * n) = gpw (gpw a m) n
  | 0 => rfl
  | n + 1 => by rw [Nat.mul_succ, gpw_add, gpw_mul a m n, gpw]
theorem mul_gpw (a b : G) : ∀ n, gpw (a * b) n = gpw a n * gpw b n
  | 0 => (mul_one 1).symm
  | n + 1 => by
    rw [gpw, gpw, gpw, mul_gpw a b n]
    ac_rfl
theorem sq_gpw (a : G) (n : Nat) : gpw a n * gpw a n = gpw a (2 * n) := by rw [← gpw_add, Nat.two_mul]
theorem inv_gpw (a : G) : inv a = gpw a 254 := by
  have e : inv a = ((((((gpw a 2 * gpw a 4) * gpw a 8) * gpw a 16) * gpw a 32) * gpw a 64) * gpw a 128) := by
    have h1 : a = gpw a 1 := (gpw_one a).symm
    have h2 : gpw a 2 = a * a := by rw [show (2 : Nat) = 2 * 1 from rfl, ← sq_gpw, gpw_one]
    have h4 : gpw a 4 = gpw a 2 * gpw a 2 := by rw [sq_gpw]
    have h8 : gpw a 8 = gpw a 4 * gpw a 4 := by rw [sq_gpw]
    have h16 : gpw a 16 = gpw a 8 * gpw a 8 := by rw [sq_gpw]
    have h32 : gpw a 32 = gpw a 16 * gpw a 16 := by rw [sq_gpw]
    have h64 : gpw a 64 = gpw a 32 * gpw a 32 := by rw [sq_gpw]
    have h128 : gpw a 128 = gpw a 64 * gpw a 64 := by rw [sq_gpw]
    rw [h128, h64, h32, h16, h8, h4, h2]
    rfl
  rw [e]
  simp only [← gpw_add]
theorem gpw_255 {a : G} (h : a ≠ 0) : gpw a 255 = 1 := by
  have e : gpw a (254 + 1) = gpw a 254 * gpw a 1 := gpw_add a 254 1
  rw [gpw_one, ← inv_gpw, mul_comm, mul_inv h] at e
  exact e
theorem gpw_mod {a : G} (h : a ≠ 0) (n : Nat) : gpw a (n % 255) = gpw a n := by
  have e : gpw a (n % 255 + 255 * (n / 255)) = gpw a (n % 255) := by rw [gpw_add, gpw_mul, gpw_255 h, one_gpw, mul_one]
  rwa [Nat.mod_add_div, eq_comm] at e
theorem inv_zero : inv 0 = 0 := by
  have h : iv (0 : G).1 = (0 : G).1 := iv_zero
  exact G.ext h
theorem inv_mul (a b : G) : inv (a * b) = inv a * inv b := by rw [inv_gpw, inv_gpw, inv_gpw, mul_gpw]
theorem inv_one : inv 1 = 1 := by rw [inv_gpw, one_gpw]
theorem inv_only {a b : G} (h : a * b = 1) : b = inv a := by
  have ha : a ≠ 0 := fun e => by rw [e, zero_mul] at h; exact absurd h (by decide)
  have : inv a * (a * b) = inv a * 1 := by rw [h]
  rwa [← mul_assoc, mul_comm (inv a), mul_inv ha, one_mul, mul_one] at this

/-- The product of the first n of some factors. -/
def prd (f : Nat → G) : Nat → G
  | 0 => 1
  | n + 1 => prd f n * f n
theorem prd_congr {f g : Nat → G} : ∀ n, (∀ i, i < n → f i = g i) → prd f n = prd g n
  | 0, _ => rfl
  | n + 1, h => by rw [prd, prd, prd_congr n (fun i hi => h i (by omega)), h n (by omega)]
/-- Which factor stands at a bit. -/
def pf (a : G) (n i : Nat) : G := if n.testBit i then gpw a (2 ^ i) else 1
theorem prd_pow (a : G) (n : Nat) : ∀ k, prd (pf a n) k = gpw a (n % 2 ^ k)
  | 0 => by simp [prd, gpw, Nat.mod_one]
  | k + 1 => by
    have e : n % 2 ^ (k + 1) = n % 2 ^ k + 2 ^ k * (n / 2 ^ k % 2) := by rw [Nat.pow_succ, Nat.mod_mul]
    rw [prd, prd_pow a n k, e, gpw_add, pf]
    have hb : n.testBit k = decide (n / 2 ^ k % 2 = 1) := by rw [Nat.testBit_eq_decide_div_mod_eq]
    rw [hb]
    by_cases h : n / 2 ^ k % 2 = 1
    · simp [h]
    · have h0 : n / 2 ^ k % 2 = 0 := by omega
      simp [h0, gpw]
theorem prd_full (a : G) {n k : Nat} (h : n < 2 ^ k) : prd (pf a n) k = gpw a n := by
  rw [prd_pow, Nat.mod_eq_of_lt h]
theorem prd_zero {f : Nat → G} {j : Nat} : ∀ n, j < n → f j = 0 → prd f n = 0
  | 0, h, _ => by omega
  | n + 1, h, h0 => by
    rw [prd]
    by_cases e : j = n
    · rw [← e, h0, mul_zero]
    · rw [prd_zero n (by omega) h0, zero_mul]
theorem prd_ne {f : Nat → G} : ∀ n, (∀ j, j < n → f j ≠ 0) → prd f n ≠ 0
  | 0, _ => by show (1 : G) ≠ 0; decide
  | n + 1, h => fun e => h n (by omega) (mul_eq_zero (prd_ne n (fun j hj => h j (by omega))) e)

/-- What lies between x and a point; 1 at the one that is left out. -/
def ap (xs : List G) (i : Nat) (x : G) (k : Nat) : G := if k = i then 1 else x + xs.getD k 0
def wq (xs : List G) (i : Nat) (x : G) : G := prd (ap xs i x) xs.length * inv (prd (ap xs i (xs.getD i 0)) xs.length)
theorem wg_prd (xs : List G) (i : Nat) (x : G) : ∀ k, wg xs i x k = prd (ap xs i x) k * inv (prd (ap xs i (xs.getD i 0)) k)
  | 0 => by rw [wg, prd, prd, inv_one, mul_one]
  | k + 1 => by
    rw [wg, prd, prd, wg_prd xs i x k, inv_mul, ap, ap]
    split
    · rw [inv_one, mul_one, mul_one]
    · ac_rfl
theorem wg_wq (xs : List G) (i : Nat) (x : G) : wg xs i x xs.length = wq xs i x := wg_prd xs i x _
/-- Is the point i there twice? -/
theorem ap_zero {xs : List G} {i : Nat} (_hi : i < xs.length) : prd (ap xs i (xs.getD i 0)) xs.length = 0 ↔ ∃ k, k < xs.length ∧ k ≠ i ∧ xs.getD k 0 = xs.getD i 0 := by
  constructor
  · intro h
    apply Classical.byContradiction
    intro hn
    refine prd_ne (f := ap xs i (xs.getD i 0)) xs.length (fun j hj e => ?_) h
    rw [ap] at e
    split at e
    · exact absurd e (by decide)
    · rename_i hji
      exact hn ⟨j, hj, hji, (eq_of_add e).symm⟩
  · rintro ⟨k, hk, hki, e⟩
    exact prd_zero _ hk (by rw [ap, if_neg hki, e, add_self])
theorem ap_nodup {xs : List G} : xs.Nodup ↔ ∀ i, i < xs.length → prd (ap xs i (xs.getD i 0)) xs.length ≠ 0 := by
  constructor
  · intro h i hi e
    obtain ⟨k, hk, hki, e'⟩ := (ap_zero hi).1 e
    exact getD_ne h hk hi hki e'
  · intro h
    rw [List.nodup_iff_pairwise_ne, List.pairwise_iff_getElem]
    intro i j hi hj hij e
    refine h j hj ((ap_zero hj).2 ⟨i, hi, by omega, ?_⟩)
    simpa [List.getD, List.getElem?_eq_getElem hi, List.getElem?_eq_getElem hj] using e

/-- A polynomial's value, by powers: of the first i coefficients. -/
def evs (p : List G) (x : G) : Nat → G
  | 0 => 0
  | i + 1 => evs p x i + p.getD i 0 * gpw x i
theorem ev_drop (p : List G) (x : G) : ∀ i, i ≤ p.length → ev p x = evs p x i + gpw x i * ev (p.drop i) x
  | 0, _ => by rw [evs, gpw, zero_add, one_mul, List.drop_zero]
  | i + 1, h => by
    rw [ev_drop p x i (by omega), List.drop_eq_getElem_cons (show i < p.length by omega), ev, evs, gpw, mul_add]
    have e : p.getD i 0 = p[i] := by simp [List.getD, List.getElem?_eq_getElem (show i < p.length by omega)]
    rw [e]
    ac_rfl
theorem ev_evs (p : List G) (x : G) : evs p x p.length = ev p x := by
  rw [ev_drop p x p.length (Nat.le_refl _), List.drop_length, ev, mul_zero, add_zero]
theorem ev_deg (p : List G) {n : Nat} (h : p.length ≤ n) : Deg n (ev p) := ⟨p, h, fun _ => rfl⟩
/-- The sum of products. -/
def dot (a b : List G) : G := dt (fun i => a.getD i 0 * b.getD i 0) (min a.length b.length)
theorem dot_through {xs p : List G} (hn : xs.Nodup) (hp : p.length ≤ xs.length) (x : G) : dot (xs.map (ev p)) ((List.range xs.length).map (fun i => wq xs i x)) = ev p x := by
  rw [dot, ← through hn (ev_deg p hp) x]
  simp only [List.length_map, List.length_range, Nat.min_self]
  refine dt_congr _ fun i hi => ?_
  rw [wg_wq]
  simp [List.getD, hi]
end Go.Proofs.Ytbdmbhpmbklaiaa.Gf
