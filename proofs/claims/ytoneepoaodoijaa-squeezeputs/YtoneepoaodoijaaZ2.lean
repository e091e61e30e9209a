/- What is told of pieces that are laid one behind the other (plain). -/
import Derived.Test.YtoneepoaodoijaaZ1
import Derived.Test.YtoneepoaodoijaaP9
namespace Go.Proofs.Ytoneepoaodoijaa
open Oct

theorem Oct.numB_take (r : List Int) (n : Nat) : ∀ (j m : Nat), j ≤ 7 → n * 128 ^ j ≤ 9007199254740991 → (0 < j → 0 < n) →
    tkGo j m (numB n ++ r) = (((m + n * 128 ^ j : Nat) : Int), (j : Int) + (numB n).length, 0) := by
  induction n using numB.induct with
  | case1 n h =>
    intro j m hj hn hp
    rw [numB_small n h, List.singleton_append, tkGo_last _ _ _ _ ?_ (by omega) (by omega)]
    · simp
    · rintro ⟨rfl, h15⟩
      omega
  | case2 n h ih =>
    intro j m hj hn hp
    have h7 : j < 7 := by
      rcases Nat.lt_or_ge j 7 with q | q
      · exact q
      · have : j = 7 := by omega
        subst this
        omega
    have e1 : n / 128 * 128 ^ (j + 1) ≤ n * 128 ^ j := by
      rw [Nat.pow_succ, Nat.mul_comm (128 ^ j), ← Nat.mul_assoc]
      exact Nat.mul_le_mul_right _ (by omega)
    rw [numB_big n h, List.cons_append, tkGo_more _ _ _ _ h7 (by omega), ih (j + 1) _ (by omega) (by omega) (by omega)]
    have e2 : (((n % 128 + 128 : Nat) : Int) % 128).toNat = n % 128 := by omega
    have e3 : n % 128 * 128 ^ j + n / 128 * 128 ^ (j + 1) = n * 128 ^ j := by
      rw [Nat.pow_succ, Nat.mul_comm (128 ^ j) 128, ← Nat.mul_assoc, ← Nat.add_mul]
      congr 1
      omega
    rw [e2, Nat.add_assoc, e3]
    simp only [List.length_cons, Prod.mk.injEq, true_and, and_true]
    omega
theorem Oct.tkNum_numB (ar r : List Int) (n : Nat) (h : n ≤ 9007199254740991) : tkNum (ar ++ numB n ++ r) ar.length = ((n : Int), (ar.length : Int) + (numB n).length, 0) := by
  rw [tkNum_in _ _ (by simp), List.append_assoc, List.drop_left, numB_take r n 0 0 (by omega) (by omega) (by omega)]
  simp [fin]
/-- A piece that is laid right. -/
structure FineP (x : Pc) : Prop where
  pl : By x.pl
  kind : (0 < x.pl.length ∧ x.pl.length ≤ 128 ∧ x.far = 0 ∧ x.n = 0) ∨ (x.pl = [] ∧ 1 ≤ x.far ∧ x.far ≤ 9007199254740991 ∧ 4 ≤ x.n ∧ x.n ≤ 131)
theorem FineP.size {x : Pc} (h : FineP x) : 0 < x.size := by
  have := h.kind
  unfold Pc.size
  omega
theorem lay_by {x : Pc} (h : FineP x) : By (lay x) := by
  unfold lay
  intro y hy
  rcases h.kind with k | k
  · rw [if_pos k.1] at hy
    rcases List.mem_cons.1 hy with rfl | hy
    · omega
    · exact h.pl y hy
  · rw [if_neg (by simp [k.1])] at hy
    rcases List.mem_cons.1 hy with rfl | hy
    · omega
    · exact numB_byte _ y hy
theorem tkP_lay {x : Pc} (h : FineP x) (ar r : List Int) : tkP (ar ++ lay x ++ r) ar.length = (x, ar.length + (lay x).length, 0) := by
  obtain ⟨pl, far, n⟩ := x
  rcases h.kind with ⟨h0, h1, h2, h3⟩ | ⟨h0, h1, h2, h3, h4⟩
  · simp only at h0 h1 h2 h3
    subst h2 h3
    have e : lay ⟨pl, 0, 0⟩ = ((pl.length - 1 : Nat) : Int) :: pl := by unfold lay; rw [if_pos h0]
    rw [e]
    have hg : ((ar ++ ((pl.length - 1 : Nat) : Int) :: pl ++ r).getD ar.length 0) = ((pl.length - 1 : Nat) : Int) := by simp [List.getD]
    unfold tkP
    rw [hg]
    have ht : (((pl.length - 1 : Nat) : Int)).toNat = pl.length - 1 := by simp
    rw [ht, if_neg (by omega), if_neg (by simp only [List.length_append, List.length_cons]; omega)]
    have hd : ((ar ++ ((pl.length - 1 : Nat) : Int) :: pl ++ r).drop (ar.length + 1)).take (pl.length - 1 + 1) = pl := by
      rw [show ar ++ ((pl.length - 1 : Nat) : Int) :: pl ++ r = (ar ++ [((pl.length - 1 : Nat) : Int)]) ++ (pl ++ r) by simp]
      rw [show ar.length + 1 = (ar ++ [((pl.length - 1 : Nat) : Int)]).length by simp, List.drop_left, show pl.length - 1 + 1 = pl.length by omega, List.take_left]
    rw [hd]
    simp only [List.length_cons, Prod.mk.injEq, true_and, and_true]
    omega
  · simp only at h0 h1 h2 h3 h4
    subst h0
    have e : lay ⟨[], far, n⟩ = ((124 + n : Nat) : Int) :: numB far := by unfold lay; rw [if_neg (by simp)]
    rw [e]
    have hg : ((ar ++ ((124 + n : Nat) : Int) :: numB far ++ r).getD ar.length 0) = ((124 + n : Nat) : Int) := by simp [List.getD]
    unfold tkP
    rw [hg]
    have ht : (((124 + n : Nat) : Int)).toNat = 124 + n := Int.toNat_natCast _
    have hn : tkNum (ar ++ ((124 + n : Nat) : Int) :: numB far ++ r) ((ar.length : Int) + 1) = ((far : Int), (ar.length : Int) + 1 + (numB far).length, 0) := by
      have := tkNum_numB (ar ++ [((124 + n : Nat) : Int)]) r far h2
      rw [show ((ar ++ [((124 + n : Nat) : Int)]).length : Int) = (ar.length : Int) + 1 by simp] at this
      rw [show ar ++ ((124 + n : Nat) : Int) :: numB far ++ r = ar ++ [((124 + n : Nat) : Int)] ++ numB far ++ r by simp]
      exact this
    rw [ht, if_pos (by omega), hn, if_neg (by simp)]
    simp only [List.length_cons, Prod.mk.injEq, Pc.mk.injEq, true_and, and_true]
    omega
/-- All pieces, laid. -/
def lays (L : List Pc) : List Int := L.flatMap lay
theorem lays_app (L M : List Pc) : lays (L ++ M) = lays L ++ lays M := by simp [lays]
theorem lays_cons (x : Pc) (L : List Pc) : lays (x :: L) = lay x ++ lays L := by simp [lays]
/-- What pieces tell behind some bytes, if there may be most. -/
def Tells (most : Int) : List Int → List Pc → List Int → Prop
  | q, [], r => q = r
  | q, x :: L, r => FineP x ∧ ckP x q.length most = 0 ∧ Tells most (flw x q) L r
theorem Tells.app {most : Int} : ∀ {L : List Pc} {q r s : List Int} {M : List Pc}, Tells most q L r → Tells most r M s → Tells most q (L ++ M) s
  | [], q, r, s, M, h, k => by
    simp only [Tells] at h
    subst h
    exact k
  | x :: L, q, r, s, M, h, k => ⟨h.1, h.2.1, Tells.app h.2.2 k⟩
theorem Tells.one {most : Int} {q : List Int} {x : Pc} (h : FineP x) (k : ckP x q.length most = 0) : Tells most q [x] (flw x q) := ⟨h, k, rfl⟩
/-- The pieces that are read, of bytes that are pieces laid. -/
theorem Tells.good {most : Int} (b : List Int) : ∀ (L : List Pc) (k : Nat) (ar post q r : List Int), b = ar ++ lays L ++ post → Good b most k → pos b k = ar.length → told b k = q → Tells most q L r → Good b most (k + L.length) ∧ pos b (k + L.length) = (ar ++ lays L).length ∧ told b (k + L.length) = r
  | [], k, ar, post, q, r, hb, hg, hp, ht, h => by
    simp only [Tells] at h
    subst h
    simpa [lays] using ⟨hg, hp, ht⟩
  | x :: L, k, ar, post, q, r, hb, hg, hp, ht, ⟨h1, h2, h3⟩ => by
    rw [lays_cons] at hb
    have hx : tkP b (pos b k) = (x, ar.length + (lay x).length, 0) := by
      rw [hp, hb, show ar ++ (lay x ++ lays L) ++ post = ar ++ lay x ++ (lays L ++ post) by simp]
      exact tkP_lay h1 ar _
    have hly : 0 < (lay x).length := by unfold lay; split <;> simp
    have hlt : pos b k < b.length := by
      rw [hp, hb]
      simp only [List.length_append]
      omega
    have he : err b most k = 0 := by unfold err; rw [hx, if_neg (by simp), ht]; exact h2
    have := Tells.good b L (k + 1) (ar ++ lay x) post (flw x q) r (by rw [hb]; simp) (fun j hj => by
      by_cases e : j = k
      · subst e; exact ⟨hlt, he⟩
      · exact hg j (by omega)) (by rw [pos, hx]; simp) (by rw [told, hx, ht]) h3
    rw [show k + (x :: L).length = k + 1 + L.length by simp; omega, lays_cons, ← List.append_assoc]
    exact this
theorem Tells.all {most : Int} {L : List Pc} {p : List Int} (h : Tells most [] L p) (hp : (p.length : Int) ≤ most) : TkR (lays L) most p 0 := by
  have := Tells.good (lays L) L 0 [] [] [] p (by simp) (fun j hj => by omega) rfl rfl h
  simp only [Nat.zero_add, List.nil_append] at this
  rw [← this.2.2]
  exact .all _ this.1 this.2.1 (by rw [this.2.2]; exact hp)
theorem Tells.len {most : Int} : ∀ {L : List Pc} {q r : List Int}, Tells most q L r → q.length ≤ r.length
  | [], q, r, h => by simp only [Tells] at h; subst h; exact Nat.le_refl _
  | x :: L, q, r, ⟨h1, h2, h3⟩ => by
    have := h3.len
    rw [flw_len] at this
    omega
/-- With one byte less the last piece is too much. -/
theorem Tells.less : ∀ {L : List Pc} {q r : List Int}, L ≠ [] → Tells (r.length : Int) q L r → ∃ L1 x s, L = L1 ++ [x] ∧ Tells ((r.length : Int) - 1) q L1 s ∧ FineP x ∧ ckP x s.length ((r.length : Int) - 1) = 6
  | [], q, r, h, _ => absurd rfl h
  | [x], q, r, _, ⟨h1, h2, h3⟩ => by
    simp only [Tells] at h3
    have hl : q.length + x.size = r.length := by rw [← h3, flw_len]
    refine ⟨[], x, q, rfl, rfl, h1, ?_⟩
    unfold ckP at h2 ⊢
    split at h2
    · simp at h2
    · rename_i hc
      rw [if_neg hc, if_pos (by omega)]
  | x :: y :: L, q, r, _, ⟨h1, h2, h3⟩ => by
    obtain ⟨L1, z, s, e, h4, h5, h6⟩ := Tells.less (by simp) h3
    have hy := h3.2.2.len
    have hys := h3.1.size
    rw [flw_len, flw_len] at hy
    refine ⟨x :: L1, z, s, by rw [e]; rfl, ⟨h1, ?_, h4⟩, h5, h6⟩
    unfold ckP at h2 ⊢
    split at h2
    · simp at h2
    · rename_i hc
      rw [if_neg hc, if_neg (by omega)]
theorem Tells.over {L : List Pc} {p : List Int} (h : Tells (p.length : Int) [] L p) : TkR (lays L) ((p.length : Int) - 1) [] 6 := by
  cases L with
  | nil =>
    simp only [Tells] at h
    subst h
    exact .over 0 (fun j hj => by omega) rfl (by simp [told])
  | cons y L =>
    obtain ⟨L1, x, s, e, h1, h2, h3⟩ := Tells.less (by simp) h
    rw [e, lays_app]
    have hg := Tells.good (lays L1 ++ lays [x]) L1 0 [] (lays [x]) [] s (by simp) (fun j hj => by omega) rfl rfl h1
    simp only [Nat.zero_add, List.nil_append] at hg
    have hx : tkP (lays L1 ++ lays [x]) (pos (lays L1 ++ lays [x]) L1.length) = (x, (lays L1).length + (lay x).length, 0) := by
      rw [hg.2.1]
      have := tkP_lay h2 (lays L1) []
      simpa [lays] using this
    have he : err (lays L1 ++ lays [x]) ((p.length : Int) - 1) L1.length = 6 := by
      unfold err
      rw [hx, if_neg (by simp), hg.2.2]
      exact h3
    have hly : 0 < (lay x).length := by unfold lay; split <;> simp
    rw [← he]
    refine .bad L1.length hg.1 ?_ (by rw [he]; decide)
    rw [hg.2.1]
    simp [lays] at hly ⊢
    omega
end Go.Proofs.Ytoneepoaodoijaa
