/- The field of 256 elements (plain mathematics): products, their laws, what makes 1. -/
namespace Go.Proofs.Ytbdmbhpmbklaiaa.Gf

def cl (a b : Nat) : Nat → Nat
  | 0 => 0
  | i + 1 => cl a b i ^^^ (if b.testBit i then a <<< i else 0)
def rd (n : Nat) : Nat → Nat
  | 0 => n
  | t + 1 => rd n t ^^^ (if (rd n t).testBit (14 - t) then 285 <<< (6 - t) else 0)
/-- The product. -/
def gm (a b : Nat) : Nat := rd (cl a b 8) 7

theorem ite_xor (p q : Bool) (v : Nat) : (if (p ^^ q) then v else 0) = (if p then v else 0) ^^^ (if q then v else 0) := by
  cases p <;> cases q <;> simp
theorem xor4 (a b c d : Nat) : (a ^^^ b) ^^^ (c ^^^ d) = (a ^^^ c) ^^^ (b ^^^ d) := by
  ac_rfl
theorem ite_xor2 (p : Bool) (u v : Nat) : (if p then u ^^^ v else 0) = (if p then u else 0) ^^^ (if p then v else 0) := by
  cases p <;> simp
theorem cl_right (a b c : Nat) : ∀ i, cl a (b ^^^ c) i = cl a b i ^^^ cl a c i
  | 0 => by simp [cl]
  | i + 1 => by rw [cl, cl, cl, cl_right a b c i, Nat.testBit_xor, ite_xor, xor4]
theorem cl_left (a b c : Nat) : ∀ i, cl (a ^^^ b) c i = cl a c i ^^^ cl b c i
  | 0 => by simp [cl]
  | i + 1 => by rw [cl, cl, cl, cl_left a b c i, Nat.shiftLeft_xor_distrib, ite_xor2, xor4]
theorem rd_xor (m n : Nat) : ∀ t, rd (m ^^^ n) t = rd m t ^^^ rd n t
  | 0 => rfl
  | t + 1 => by rw [rd, rd, rd, rd_xor m n t, Nat.testBit_xor, ite_xor, xor4]
theorem gm_right (a b c : Nat) : gm a (b ^^^ c) = gm a b ^^^ gm a c := by unfold gm; rw [cl_right, rd_xor]
theorem gm_left (a b c : Nat) : gm (a ^^^ b) c = gm a c ^^^ gm b c := by unfold gm; rw [cl_left, rd_xor]

/-- What takes sums to sums. -/
structure Adt (f : Nat → Nat) : Prop where
  add : ∀ x y, f (x ^^^ y) = f x ^^^ f y
theorem Adt.zero {f : Nat → Nat} (h : Adt f) : f 0 = 0 := by
  have := h.add 0 0
  simp at this
  exact this
def lin (f : Nat → Nat) (a : Nat) : Nat → Nat
  | 0 => 0
  | i + 1 => lin f a i ^^^ (if a.testBit i then f (2 ^ i) else 0)
theorem Adt.lin {f : Nat → Nat} (h : Adt f) (a : Nat) : ∀ i, f (lin (fun x => x) a i) = Gf.lin f a i
  | 0 => h.zero
  | i + 1 => by
    rw [Gf.lin, Gf.lin, h.add, h.lin a i]
    cases a.testBit i <;> simp [h.zero]
set_option maxRecDepth 100000 in
theorem lin_id : ∀ a : Fin 256, lin (fun x => x) a.1 8 = a.1 := by decide
theorem Adt.at {f : Nat → Nat} (h : Adt f) {a : Nat} (ha : a < 256) : f a = Gf.lin f a 8 := by
  rw [← h.lin a 8, lin_id ⟨a, ha⟩]
theorem lin_same {f g : Nat → Nat} (a : Nat) (h : ∀ i, i < 8 → f (2 ^ i) = g (2 ^ i)) : ∀ i, i ≤ 8 → lin f a i = lin g a i
  | 0, _ => rfl
  | i + 1, hi => by rw [lin, lin, lin_same a h i (by omega), h i (by omega)]
theorem Adt.same {f g : Nat → Nat} (hf : Adt f) (hg : Adt g) (h : ∀ i, i < 8 → f (2 ^ i) = g (2 ^ i)) {a : Nat} (ha : a < 256) : f a = g a := by
  rw [hf.at ha, hg.at ha, lin_same a h 8 (Nat.le_refl _)]
theorem add_gmr (a : Nat) : Adt (gm a) := ⟨gm_right a⟩
theorem add_gml (b : Nat) : Adt (fun a => gm a b) := ⟨fun x y => gm_left x y b⟩
theorem Adt.comp {f g : Nat → Nat} (hf : Adt f) (hg : Adt g) : Adt (fun x => f (g x)) := ⟨fun x y => by simp only [hg.add, hf.add]⟩

theorem basis_lt : ∀ i j : Fin 8, gm (2 ^ i.1) (2 ^ j.1) < 256 := by decide
theorem basis_comm : ∀ i j : Fin 8, gm (2 ^ i.1) (2 ^ j.1) = gm (2 ^ j.1) (2 ^ i.1) := by decide
theorem basis_assoc : ∀ i j k : Fin 8, gm (2 ^ i.1) (gm (2 ^ j.1) (2 ^ k.1)) = gm (gm (2 ^ i.1) (2 ^ j.1)) (2 ^ k.1) := by decide
theorem lin_lt {f : Nat → Nat} (a : Nat) (h : ∀ i, i < 8 → f (2 ^ i) < 256) : ∀ i, i ≤ 8 → lin f a i < 256
  | 0, _ => by simp [lin]
  | i + 1, hi => by
    rw [lin]
    have h1 := lin_lt a h i (by omega)
    have h2 := h i (by omega)
    have : (if a.testBit i then f (2 ^ i) else 0) < 2 ^ 8 := by split <;> omega
    exact Nat.xor_lt_two_pow (n := 8) h1 this
theorem gm_lt {a b : Nat} (ha : a < 256) (hb : b < 256) : gm a b < 256 := by
  rw [(add_gmr a).at hb]
  refine lin_lt b (fun j hj => ?_) 8 (Nat.le_refl _)
  rw [(add_gml (2 ^ j)).at ha]
  exact lin_lt a (fun i hi => basis_lt ⟨i, hi⟩ ⟨j, hj⟩) 8 (Nat.le_refl _)
theorem gm_comm {a b : Nat} (ha : a < 256) (hb : b < 256) : gm a b = gm b a := by
  refine (add_gmr a).same (add_gml a) (fun j hj => ?_) hb
  exact (add_gml (2 ^ j)).same (add_gmr (2 ^ j)) (fun i hi => basis_comm ⟨i, hi⟩ ⟨j, hj⟩) ha
theorem gm_assoc {a b c : Nat} (ha : a < 256) (hb : b < 256) (hc : c < 256) : gm a (gm b c) = gm (gm a b) c := by
  refine ((add_gmr a).comp (add_gmr b)).same (add_gmr (gm a b)) (fun k hk => ?_) hc
  refine ((add_gmr a).comp (add_gml (2 ^ k))).same ((add_gml (2 ^ k)).comp (add_gmr a)) (fun j hj => ?_) hb
  exact (add_gml (gm (2 ^ j) (2 ^ k))).same ((add_gml (2 ^ k)).comp (add_gml (2 ^ j))) (fun i hi => basis_assoc ⟨i, hi⟩ ⟨j, hj⟩ ⟨k, hk⟩) ha
theorem gm_zero (a : Nat) : gm a 0 = 0 := (add_gmr a).zero
theorem zero_gm (a : Nat) : gm 0 a = 0 := (add_gml a).zero
set_option maxRecDepth 100000 in
theorem gm_one : ∀ a : Fin 256, gm a.1 1 = a.1 := by decide

/-- a taken n times as a factor. -/
def gp (a : Nat) : Nat → Nat
  | 0 => 1
  | n + 1 => gm (gp a n) a
def sq (a : Nat) : Nat := gm a a
/-- a to the power 254, by squares. -/
def iv (a : Nat) : Nat :=
  let a2 := sq a
  let a4 := sq a2
  let a8 := sq a4
  let a16 := sq a8
  let a32 := sq a16
  let a64 := sq a32
  let a128 := sq a64
  gm (gm (gm (gm (gm (gm a2 a4) a8) a16) a32) a64) a128
set_option maxRecDepth 100000 in
theorem iv_one : ∀ a : Fin 256, a.1 ≠ 0 → gm a.1 (iv a.1) = 1 := by decide
set_option maxRecDepth 100000 in
theorem iv_zero : iv 0 = 0 := by decide
theorem iv_lt {a : Nat} (ha : a < 256) : iv a < 256 := by
  have s : ∀ {x : Nat}, x < 256 → sq x < 256 := fun h => gm_lt h h
  unfold iv
  exact gm_lt (gm_lt (gm_lt (gm_lt (gm_lt (gm_lt (s ha) (s (s ha))) (s (s (s ha)))) (s (s (s (s ha))))) (s (s (s (s (s ha)))))) (s (s (s (s (s (s ha))))))) (s (s (s (s (s (s (s ha)))))))
end Go.Proofs.Ytbdmbhpmbklaiaa.Gf
