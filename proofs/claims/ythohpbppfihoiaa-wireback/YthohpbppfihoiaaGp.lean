/- Texts joined into one: OctS, P1, P2, P3, P4, P5. -/
import Derived.Test.YthohpbppfihoiaaOctQ
import Derived.Test.YthohpbppfihoiaaY3
import Derived.Test.YthohpbppfihoiaaGw
import Derived.Test.YthohpbppfihoiaaSums
/- Plain mathematics of layer 1: what is taken is what was put. -/
namespace Go.Proofs.Ythohpbppfihoiaa.Oct

theorem numB_take (r : List Int) (n : Nat) : ∀ (j m : Nat), j ≤ 7 → n * 128 ^ j ≤ 9007199254740991 → (0 < j → 0 < n) →
    tkGo j m (numB n ++ r) = (((m + n * 128 ^ j : Nat) : Int), (j : Int) + (numB n).length, 0) := by
  induction n using numB.induct with
  | case1 n h =>
    intro j m hj hn hp
    rw [numB_small n h, List.singleton_append, tkGo_last _ _ _ _ ?_ (by omega) (by omega)]
    · simp
    · rintro ⟨rfl, h15⟩
      omega
  | case2 n h ih =>
    intro j m hj hn hp
    have h7 : j < 7 := by
      rcases Nat.lt_or_ge j 7 with q | q
      · exact q
      · have : j = 7 := by omega
        subst this
        omega
    have e1 : n / 128 * 128 ^ (j + 1) ≤ n * 128 ^ j := by
      rw [Nat.pow_succ, Nat.mul_comm (128 ^ j), ← Nat.mul_assoc]
      exact Nat.mul_le_mul_right _ (by omega)
    rw [numB_big n h, List.cons_append, tkGo_more _ _ _ _ h7 (by omega), ih (j + 1) _ (by omega) (by omega) (by omega)]
    have e2 : (((n % 128 + 128 : Nat) : Int) % 128).toNat = n % 128 := by omega
    have e3 : n % 128 * 128 ^ j + n / 128 * 128 ^ (j + 1) = n * 128 ^ j := by
      rw [Nat.pow_succ, Nat.mul_comm (128 ^ j) 128, ← Nat.mul_assoc, ← Nat.add_mul]
      congr 1
      omega
    rw [e2, Nat.add_assoc, e3]
    simp only [List.length_cons, Prod.mk.injEq, true_and, and_true]
    omega

theorem take_numB (r : List Int) : ∀ (j m : Nat), j ≤ 7 → (∀ x ∈ r, 0 ≤ x ∧ x < 256) → (tkGo j m r).2.2 = 0 →
    ∃ z : Nat, (tkGo j m r).1 = ((m + z * 128 ^ j : Nat) : Int) ∧ numB z = r.take ((tkGo j m r).2.1.toNat - j) ∧ (0 < j → 0 < z) ∧ (j : Int) < (tkGo j m r).2.1 := by
  induction r with
  | nil => intro j m _ _ h; simp [tkGo] at h
  | cons x r ih =>
    intro j m hj hb h
    have hx := hb x (by simp)
    by_cases h1 : j = 7 ∧ 15 < x
    · rw [tkGo_lim _ _ _ _ h1] at h; simp at h
    · by_cases h2 : 128 ≤ x
      · have h7 : j < 7 := by omega
        rw [tkGo_more _ _ _ _ h7 h2] at h ⊢
        obtain ⟨z, e1, e2, e3, e4⟩ := ih (j + 1) _ (by omega) (fun y hy => hb y (by simp [hy])) h
        have hz := e3 (by omega)
        refine ⟨(x % 128).toNat + 128 * z, ?_, ?_, by omega, by omega⟩
        · rw [e1]
          congr 1
          rw [Nat.add_assoc]
          congr 1
          rw [Nat.add_mul, Nat.pow_succ, Nat.mul_comm (128 ^ j) 128, ← Nat.mul_assoc, Nat.mul_comm z 128]
        · rw [numB_big _ (by omega)]
          have q1 : ((x % 128).toNat + 128 * z) / 128 = z := by omega
          have q2 : ((((x % 128).toNat + 128 * z) % 128 + 128 : Nat) : Int) = x := by omega
          rw [q1, q2, e2]
          have q3 : (tkGo (j + 1) (m + (x % 128).toNat * 128 ^ j) r).2.1.toNat - j = (tkGo (j + 1) (m + (x % 128).toNat * 128 ^ j) r).2.1.toNat - (j + 1) + 1 := by omega
          rw [q3, List.take_succ_cons]
      · by_cases h3 : x = 0 ∧ 0 < j
        · rw [h3.1, tkGo_form _ _ _ h3.2] at h; simp at h
        · rw [tkGo_last _ _ _ _ h1 (by omega) h3]
          refine ⟨x.toNat, rfl, ?_, by omega, by simp only; omega⟩
          have q : ((j : Int) + 1).toNat - j = 1 := by omega
          simp only [q]
          rw [numB_small _ (by omega)]
          simp
          omega

end Go.Proofs.Ythohpbppfihoiaa.Oct

/- What is taken is what was put: parts, plain. -/
namespace Go.Proofs.Ythohpbppfihoiaa
open Go.RowKit Go.Lib Oct

theorem strOf_strBs (s : ByteArray) : strOfNums (strBs s) = s := by
  apply ByteArray.ext
  apply Array.ext'
  rw [strOfNums_data]
  unfold strBs
  rw [List.map_map]
  conv => rhs; rw [← List.map_id s.data.toList]
  refine List.map_congr_left fun x _ => ?_
  simp
theorem drop_next {X a R : List Int} {k : Nat} (h : X.drop k = a ++ R) : X.drop (k + a.length) = R := by
  rw [← List.drop_drop, h, List.drop_left]
theorem drop_lt {X a R : List Int} {k : Nat} (h : X.drop k = a ++ R) (ha : 0 < a.length) : k + a.length ≤ X.length := by
  have := congrArg List.length h
  rw [List.length_drop, List.length_append] at this
  omega
section
variable {X R : List Int} {k : Nat}
theorem tkNum_at {n : Nat} (h : X.drop k = numB n ++ R) (hn : n ≤ 9007199254740991) : tkNum X (k : Int) = ((n : Int), ((k + (numB n).length : Nat) : Int), 0) := by
  have hk := drop_lt h (numB_pos n)
  rw [tkNum_in X k (by omega), h, numB_take R n 0 0 (by omega) (by omega) (by omega)]
  simp [fin]
theorem nS_at {n : Nat} (h : X.drop k = numB n ++ R) (hn : n ≤ 9007199254740991) : nS X ((k : Int), 0) = ((n : Int), (((k + (numB n).length : Nat) : Int), 0)) := nS_ok (tkNum_at h hn)
theorem xS_at {ps : List Int} {m : Int} (h : X.drop k = numB ps.length ++ ps ++ R) (hm : (ps.length : Int) ≤ m) (hn : ps.length ≤ 9007199254740991) : xS X m ((k : Int), 0) = (ps, (((k + (numB ps.length ++ ps).length : Nat) : Int), 0)) := by
  have h1 : X.drop k = numB ps.length ++ (ps ++ R) := by rw [h, List.append_assoc]
  have hd := drop_next h1
  have hl := congrArg List.length hd
  rw [List.length_drop, List.length_append] at hl
  have hk := drop_lt h1 (numB_pos _)
  have ht : tkText X (k : Int) m = (ps, ((k + (numB ps.length ++ ps).length : Nat) : Int), 0) := by
    unfold tkText
    rw [tkNum_at h1 hn]
    simp only [ne_eq, not_true_eq_false, if_false, Int.toNat_natCast]
    rw [if_neg (by omega), if_neg (by omega), hd, List.take_left]
    simp only [List.length_append, Prod.mk.injEq, true_and, and_true]
    omega
  exact xS_ok ht
theorem sS_at {l : List Int} (h : X.drop k = l ++ R) (hl : l.length = 32) : sS X ((k : Int), 0) = (l, (((k + l.length : Nat) : Int), 0)) := by
  have hk := drop_lt h (by omega)
  rw [sS_long (by omega), h, show (l ++ R).take 32 = l by rw [← hl, List.take_left]]
  simp only [Prod.mk.injEq, true_and, and_true]
  omega
theorem hS_at {x : Hd} (h : X.drop k = hB x ++ R) (hx : HdB x) : hS X ((k : Int), 0) = (x, (((k + (hB x).length : Nat) : Int), 0)) := by
  obtain ⟨s, g⟩ := x
  obtain ⟨h1, h2, h3⟩ := hx
  simp only at h1 h2 h3
  obtain ⟨n, rfl⟩ := Int.eq_ofNat_of_zero_le h2
  have e : hB (s, (n : Int)) = numB (strBs s).length ++ strBs s ++ numB n := by
    unfold hB fB
    rw [strBs_len]
    rfl
  rw [e] at h ⊢
  rw [List.append_assoc] at h
  have q1 := xS_at (m := 32) h (by rw [strBs_len]; omega) (by rw [strBs_len]; omega)
  have q2 := nS_at (drop_next h) (show n ≤ 9007199254740991 by omega)
  unfold hS
  rw [q1]
  simp only
  rw [q2]
  simp only [strOf_strBs, List.length_append, Prod.mk.injEq, true_and, and_true]
  omega
theorem pS_at {x : Pt} (h : X.drop k = qB x ++ R) (hx : PtB x) : pS X ((k : Int), 0) = (x, (((k + (qB x).length : Nat) : Int), 0)) := by
  obtain ⟨s, g⟩ := x
  obtain ⟨h1, h2, h3⟩ := hx
  simp only at h1 h2 h3
  obtain ⟨n, rfl⟩ := Int.eq_ofNat_of_zero_le h2
  have e : qB (s, (n : Int)) = s ++ numB n := rfl
  rw [e] at h ⊢
  rw [List.append_assoc] at h
  have q1 := sS_at h h1
  have q2 := nS_at (drop_next h) (show n ≤ 9007199254740991 by omega)
  unfold pS
  rw [q1]
  simp only
  rw [q2]
  simp only [List.length_append, Prod.mk.injEq, true_and, and_true]
  omega
end
theorem rep_at {α : Type} {X : List Int} (f : St → α × St) (F : α → List Int) (Q : α → Prop) (hf : ∀ (x : α) (k : Nat) (R : List Int), X.drop k = F x ++ R → Q x → f ((k : Int), 0) = (x, (((k + (F x).length : Nat) : Int), 0))) : ∀ (L : List α) (k : Nat) (R : List Int), X.drop k = L.flatMap F ++ R → (∀ x ∈ L, Q x) → rep f L.length ((k : Int), 0) = (L, (((k + (L.flatMap F).length : Nat) : Int), 0))
  | [], k, R, _, _ => by simp [rep]
  | x :: L, k, R, h, hq => by
    rw [List.flatMap_cons, List.append_assoc] at h
    rw [List.length_cons, rep_ok _ _ _ rfl, hf x k _ h (hq x (by simp))]
    simp only
    rw [rep_at f F Q hf L (k + (F x).length) R (drop_next h) (fun y hy => hq y (by simp [hy]))]
    simp only [List.flatMap_cons, List.length_append, Prod.mk.injEq, true_and, and_true]
    omega
theorem lS_at {α : Type} {X R : List Int} {k m : Nat} (f : St → α × St) (F : α → List Int) (Q : α → Prop) (hf : ∀ (x : α) (k : Nat) (R : List Int), X.drop k = F x ++ R → Q x → f ((k : Int), 0) = (x, (((k + (F x).length : Nat) : Int), 0))) {L : List α} (h : X.drop k = lB F L ++ R) (hq : ∀ x ∈ L, Q x) (hm : L.length ≤ m) (hm2 : m ≤ 1000) : lS X (m : Int) f ((k : Int), 0) = (L, (((k + (lB F L).length : Nat) : Int), 0)) := by
  unfold lB at h ⊢
  rw [List.append_assoc] at h
  rw [lS_small (nS_at h (by omega)) (by omega), rep_at f F Q hf L _ R (drop_next h) hq]
  simp only [List.length_append, Prod.mk.injEq, true_and, and_true]
  omega
end Go.Proofs.Ythohpbppfihoiaa

/- What is taken is what was put: the note, plain. -/
namespace Go.Proofs.Ythohpbppfihoiaa
open Go.RowKit Go.Lib Oct

theorem nil_of_size {s : ByteArray} (h : s.size = 0) : s = { data := #[] } := by
  apply ByteArray.ext
  exact Array.eq_empty_of_size_eq_zero h
theorem end_of {X : List Int} {k : Nat} (h : X.drop k = []) : ¬ ((k : Nat) : Int) < (X.length : Int) := by
  have := List.drop_eq_nil_iff.1 h
  omega
theorem tput_1 (X : List Int) (h0 : X = numB 1 ++ ([])) : ∃ k : Nat, noteS X (0, 0) = (⟨1, { data := #[] }, 0, 0, [], [], []⟩, ((k : Int), 0)) ∧ ¬ ((k : Nat) : Int) < (X.length : Int) := by
  have h0' : X.drop 0 = numB 1 ++ ([]) := by rw [List.drop_zero]; exact h0
  have q0 := nS_at h0' (show 1 ≤ 9007199254740991 by decide)
  have d0 := drop_next h0'
  have HV : noteS X (0, 0) = noteK (false, false, false, false, false) X 1 (((0 + (numB 1).length : Nat) : Int), 0) := by
    unfold noteS
    rw [show ((0 : Int), (0 : Int)) = (((0 : Nat) : Int), (0 : Int)) from rfl, q0]
    rfl
  refine ⟨_, ?_, end_of d0⟩
  rw [HV]
  unfold noteK
  simp only [cond_false, strOf_nil]
theorem tput_2 (X : List Int) (H : List Hd) (hH : ∀ x ∈ H, HdB x) (hHl : H.length ≤ 64) (h0 : X = numB 2 ++ (lB hB H ++ ([]))) : ∃ k : Nat, noteS X (0, 0) = (⟨2, { data := #[] }, 0, 0, H, [], []⟩, ((k : Int), 0)) ∧ ¬ ((k : Nat) : Int) < (X.length : Int) := by
  have h0' : X.drop 0 = numB 2 ++ (lB hB H ++ ([])) := by rw [List.drop_zero]; exact h0
  have q0 := nS_at h0' (show 2 ≤ 9007199254740991 by decide)
  have d0 := drop_next h0'
  have HV : noteS X (0, 0) = noteK (false, false, true, false, false) X 2 (((0 + (numB 2).length : Nat) : Int), 0) := by
    unfold noteS
    rw [show ((0 : Int), (0 : Int)) = (((0 : Nat) : Int), (0 : Int)) from rfl, q0]
    rfl
  have q4 := lS_at (m := 64) (hS X) hB HdB (fun x k R h hx => hS_at h hx) d0 hH hHl (by decide)
  have d4 := drop_next d0
  have q4 : lS X 64 (hS X) _ = _ := q4
  refine ⟨_, ?_, end_of d4⟩
  rw [HV]
  unfold noteK
  simp only [cond_true, cond_false, strOf_nil, q4]
theorem tput_3 (X : List Int) (nm : ByteArray) (g : Nat) (hnm : nm.size ≤ 32) (hg : g ≤ 9007199254740991) (h0 : X = numB 3 ++ ((numB nm.size ++ strBs nm) ++ (numB g ++ ([])))) : ∃ k : Nat, noteS X (0, 0) = (⟨3, nm, (g : Int), 0, [], [], []⟩, ((k : Int), 0)) ∧ ¬ ((k : Nat) : Int) < (X.length : Int) := by
  have h0' : X.drop 0 = numB 3 ++ ((numB nm.size ++ strBs nm) ++ (numB g ++ ([]))) := by rw [List.drop_zero]; exact h0
  have q0 := nS_at h0' (show 3 ≤ 9007199254740991 by decide)
  have d0 := drop_next h0'
  have HV : noteS X (0, 0) = noteK (true, false, false, false, false) X 3 (((0 + (numB 3).length : Nat) : Int), 0) := by
    unfold noteS
    rw [show ((0 : Int), (0 : Int)) = (((0 : Nat) : Int), (0 : Int)) from rfl, q0]
    rfl
  have d1' : X.drop (0 + (numB 3).length) = numB (strBs nm).length ++ strBs nm ++ (numB g ++ ([])) := by rw [strBs_len]; exact d0
  have q1 := xS_at (m := 32) d1' (by rw [strBs_len]; omega) (by rw [strBs_len]; omega)
  have d1 := drop_next d1'
  have q2 := nS_at d1 hg
  have d2 := drop_next d1
  refine ⟨_, ?_, end_of d2⟩
  rw [HV]
  unfold noteK
  simp only [cond_true, cond_false, q1, q2, strOf_strBs]
theorem tput_4 (X : List Int) (nm : ByteArray) (g : Nat) (P : List Pt) (hnm : nm.size ≤ 32) (hg : g ≤ 9007199254740991) (hP : ∀ x ∈ P, PtB x) (hPl : P.length ≤ 256) (h0 : X = numB 4 ++ ((numB nm.size ++ strBs nm) ++ (numB g ++ (lB qB P ++ ([]))))) : ∃ k : Nat, noteS X (0, 0) = (⟨4, nm, (g : Int), 0, [], P, []⟩, ((k : Int), 0)) ∧ ¬ ((k : Nat) : Int) < (X.length : Int) := by
  have h0' : X.drop 0 = numB 4 ++ ((numB nm.size ++ strBs nm) ++ (numB g ++ (lB qB P ++ ([])))) := by rw [List.drop_zero]; exact h0
  have q0 := nS_at h0' (show 4 ≤ 9007199254740991 by decide)
  have d0 := drop_next h0'
  have HV : noteS X (0, 0) = noteK (true, false, false, true, false) X 4 (((0 + (numB 4).length : Nat) : Int), 0) := by
    unfold noteS
    rw [show ((0 : Int), (0 : Int)) = (((0 : Nat) : Int), (0 : Int)) from rfl, q0]
    rfl
  have d1' : X.drop (0 + (numB 4).length) = numB (strBs nm).length ++ strBs nm ++ (numB g ++ (lB qB P ++ ([]))) := by rw [strBs_len]; exact d0
  have q1 := xS_at (m := 32) d1' (by rw [strBs_len]; omega) (by rw [strBs_len]; omega)
  have d1 := drop_next d1'
  have q2 := nS_at d1 hg
  have d2 := drop_next d1
  have q5 := lS_at (m := 256) (pS X) qB PtB (fun x k R h hx => pS_at h hx) d2 hP hPl (by decide)
  have d5 := drop_next d2
  have q5 : lS X 256 (pS X) _ = _ := q5
  refine ⟨_, ?_, end_of d5⟩
  rw [HV]
  unfold noteK
  simp only [cond_true, cond_false, q1, q2, strOf_strBs, q5]
theorem tput_5 (X : List Int) (nm : ByteArray) (g : Nat) (hnm : nm.size ≤ 32) (hg : g ≤ 9007199254740991) (h0 : X = numB 5 ++ ((numB nm.size ++ strBs nm) ++ (numB g ++ ([])))) : ∃ k : Nat, noteS X (0, 0) = (⟨5, nm, (g : Int), 0, [], [], []⟩, ((k : Int), 0)) ∧ ¬ ((k : Nat) : Int) < (X.length : Int) := by
  have h0' : X.drop 0 = numB 5 ++ ((numB nm.size ++ strBs nm) ++ (numB g ++ ([]))) := by rw [List.drop_zero]; exact h0
  have q0 := nS_at h0' (show 5 ≤ 9007199254740991 by decide)
  have d0 := drop_next h0'
  have HV : noteS X (0, 0) = noteK (true, false, false, false, false) X 5 (((0 + (numB 5).length : Nat) : Int), 0) := by
    unfold noteS
    rw [show ((0 : Int), (0 : Int)) = (((0 : Nat) : Int), (0 : Int)) from rfl, q0]
    rfl
  have d1' : X.drop (0 + (numB 5).length) = numB (strBs nm).length ++ strBs nm ++ (numB g ++ ([])) := by rw [strBs_len]; exact d0
  have q1 := xS_at (m := 32) d1' (by rw [strBs_len]; omega) (by rw [strBs_len]; omega)
  have d1 := drop_next d1'
  have q2 := nS_at d1 hg
  have d2 := drop_next d1
  refine ⟨_, ?_, end_of d2⟩
  rw [HV]
  unfold noteK
  simp only [cond_true, cond_false, q1, q2, strOf_strBs]
theorem tput_6 (X : List Int) (nm : ByteArray) (g : Nat) (i : Nat) (hnm : nm.size ≤ 32) (hg : g ≤ 9007199254740991) (hi : i ≤ 255) (h0 : X = numB 6 ++ ((numB nm.size ++ strBs nm) ++ (numB g ++ (numB i ++ ([]))))) : ∃ k : Nat, noteS X (0, 0) = (⟨6, nm, (g : Int), (i : Int), [], [], []⟩, ((k : Int), 0)) ∧ ¬ ((k : Nat) : Int) < (X.length : Int) := by
  have h0' : X.drop 0 = numB 6 ++ ((numB nm.size ++ strBs nm) ++ (numB g ++ (numB i ++ ([])))) := by rw [List.drop_zero]; exact h0
  have q0 := nS_at h0' (show 6 ≤ 9007199254740991 by decide)
  have d0 := drop_next h0'
  have HV : noteS X (0, 0) = noteK (true, true, false, false, false) X 6 (((0 + (numB 6).length : Nat) : Int), 0) := by
    unfold noteS
    rw [show ((0 : Int), (0 : Int)) = (((0 : Nat) : Int), (0 : Int)) from rfl, q0]
    rfl
  have d1' : X.drop (0 + (numB 6).length) = numB (strBs nm).length ++ strBs nm ++ (numB g ++ (numB i ++ ([]))) := by rw [strBs_len]; exact d0
  have q1 := xS_at (m := 32) d1' (by rw [strBs_len]; omega) (by rw [strBs_len]; omega)
  have d1 := drop_next d1'
  have q2 := nS_at d1 hg
  have d2 := drop_next d1
  have q3 := nS_at d2 (show i ≤ 9007199254740991 by omega)
  have d3 := drop_next d2
  refine ⟨_, ?_, end_of d3⟩
  rw [HV]
  unfold noteK
  simp only [cond_true, cond_false, q1, q2, strOf_strBs, q3]
theorem tput_7 (X : List Int) (nm : ByteArray) (g : Nat) (i : Nat) (bs : List Int) (hnm : nm.size ≤ 32) (hg : g ≤ 9007199254740991) (hi : i ≤ 255) (hb : bs.length ≤ 512) (h0 : X = numB 7 ++ ((numB nm.size ++ strBs nm) ++ (numB g ++ (numB i ++ ((numB bs.length ++ bs) ++ ([])))))) : ∃ k : Nat, noteS X (0, 0) = (⟨7, nm, (g : Int), (i : Int), [], [], bs⟩, ((k : Int), 0)) ∧ ¬ ((k : Nat) : Int) < (X.length : Int) := by
  have h0' : X.drop 0 = numB 7 ++ ((numB nm.size ++ strBs nm) ++ (numB g ++ (numB i ++ ((numB bs.length ++ bs) ++ ([]))))) := by rw [List.drop_zero]; exact h0
  have q0 := nS_at h0' (show 7 ≤ 9007199254740991 by decide)
  have d0 := drop_next h0'
  have HV : noteS X (0, 0) = noteK (true, true, false, false, true) X 7 (((0 + (numB 7).length : Nat) : Int), 0) := by
    unfold noteS
    rw [show ((0 : Int), (0 : Int)) = (((0 : Nat) : Int), (0 : Int)) from rfl, q0]
    rfl
  have d1' : X.drop (0 + (numB 7).length) = numB (strBs nm).length ++ strBs nm ++ (numB g ++ (numB i ++ ((numB bs.length ++ bs) ++ ([])))) := by rw [strBs_len]; exact d0
  have q1 := xS_at (m := 32) d1' (by rw [strBs_len]; omega) (by rw [strBs_len]; omega)
  have d1 := drop_next d1'
  have q2 := nS_at d1 hg
  have d2 := drop_next d1
  have q3 := nS_at d2 (show i ≤ 9007199254740991 by omega)
  have d3 := drop_next d2
  have q6 := xS_at (m := 512) d3 (by omega) (by omega)
  have d6 := drop_next d3
  refine ⟨_, ?_, end_of d6⟩
  rw [HV]
  unfold noteK
  simp only [cond_true, cond_false, q1, q2, strOf_strBs, q3, q6]
end Go.Proofs.Ythohpbppfihoiaa

/- Take of Put is the note, plain. -/
namespace Go.Proofs.Ythohpbppfihoiaa
open Go.RowKit Go.Lib Oct

theorem al_zero {s : Int} {nm : ByteArray} {g i : Int} {hn pn bn : Nat} (h : al (nmd s) nm g i hn pn bn = true) :
    ((nmd s).2.1 = false → i = 0) ∧ ((nmd s).2.2.1 = false → hn = 0) ∧ ((nmd s).2.2.2.1 = false → pn = 0) ∧ ((nmd s).2.2.2.2 = false → bn = 0) := by
  unfold al at h
  simp only [Bool.and_eq_true, Bool.or_eq_true, decide_eq_true_eq] at h
  obtain ⟨⟨⟨⟨_, h2⟩, h3⟩, h4⟩, h5⟩ := h
  refine ⟨fun e => ?_, fun e => ?_, fun e => ?_, fun e => ?_⟩
  · rcases h2 with k | k
    · rw [e] at k; cases k
    · exact k
  · rcases h3 with k | k
    · rw [e] at k; cases k
    · exact k
  · rcases h4 with k | k
    · rw [e] at k; cases k
    · exact k
  · rcases h5 with k | k
    · rw [e] at k; cases k
    · exact k
theorem take_put {n : Nt} (h : chkN n = 0) (h32 : ∀ p ∈ n.P, p.1.length = 32) : tkN (putN n).1 = (n, 0) := by
  have hk := h
  unfold putN
  rw [if_pos h]
  obtain ⟨s, nm, g, i, H, P, bs⟩ := n
  simp only at h32 ⊢
  have R := right_of (show chk s nm g i H P bs.length = 0 from h)
  obtain ⟨_, ha, _⟩ := chk_ok (show chk s nm g i H P bs.length = 0 from h)
  have hz := al_zero ha
  have hg : 0 ≤ g := by
    cases hm : (nmd s).1 with
    | true => exact (R.file hm).2.1
    | false => have := (R.nofile hm).2; omega
  obtain ⟨gn, rfl⟩ := Int.eq_ofNat_of_zero_le hg
  obtain ⟨i2, rfl⟩ := Int.eq_ofNat_of_zero_le R.i.1
  simp only [Int.toNat_natCast]
  have hi := R.i.2
  have hPt : ∀ x ∈ P, PtB x := fun x hx => R.pt x hx (h32 x hx)
  rcases say7 R.say with rfl | rfl | rfl | rfl | rfl | rfl | rfl
  · have e : pB 1 nm gn i2 H P bs = numB 1 := by simp [pB, nmd]
    have z0 := R.nofile rfl
    have z1 := nil_of_size z0.1
    have z2 : gn = 0 := by omega
    subst z1 z2
    have z3 : i2 = 0 := by have := hz.1 rfl; omega
    subst z3
    have z4 := List.length_eq_zero_iff.1 (hz.2.1 rfl)
    subst z4
    have z5 := List.length_eq_zero_iff.1 (hz.2.2.1 rfl)
    subst z5
    have z6 := List.length_eq_zero_iff.1 (hz.2.2.2 rfl)
    subst z6
    obtain ⟨k, e1, e2⟩ := tput_1 _ (e.trans (by simp))
    exact tkN_ok e1 hk e2
  · have e : pB 2 nm gn i2 H P bs = numB 2 ++ lB hB H := by simp [pB, nmd]
    have z0 := R.nofile rfl
    have z1 := nil_of_size z0.1
    have z2 : gn = 0 := by omega
    subst z1 z2
    have z3 : i2 = 0 := by have := hz.1 rfl; omega
    subst z3
    have z5 := List.length_eq_zero_iff.1 (hz.2.2.1 rfl)
    subst z5
    have z6 := List.length_eq_zero_iff.1 (hz.2.2.2 rfl)
    subst z6
    obtain ⟨k, e1, e2⟩ := tput_2 _ H R.hd R.hl (e.trans (by simp))
    exact tkN_ok e1 hk e2
  · have e : pB 3 nm gn i2 H P bs = numB 3 ++ fB nm gn := by simp [pB, nmd]
    obtain ⟨f1, _, f3⟩ := R.file rfl
    have hgm : gn ≤ 9007199254740991 := by omega
    have z3 : i2 = 0 := by have := hz.1 rfl; omega
    subst z3
    have z4 := List.length_eq_zero_iff.1 (hz.2.1 rfl)
    subst z4
    have z5 := List.length_eq_zero_iff.1 (hz.2.2.1 rfl)
    subst z5
    have z6 := List.length_eq_zero_iff.1 (hz.2.2.2 rfl)
    subst z6
    obtain ⟨k, e1, e2⟩ := tput_3 _ nm gn f1 hgm (e.trans (by simp [fB, List.append_assoc]))
    exact tkN_ok e1 hk e2
  · have e : pB 4 nm gn i2 H P bs = numB 4 ++ fB nm gn ++ lB qB P := by simp [pB, nmd]
    obtain ⟨f1, _, f3⟩ := R.file rfl
    have hgm : gn ≤ 9007199254740991 := by omega
    have z3 : i2 = 0 := by have := hz.1 rfl; omega
    subst z3
    have z4 := List.length_eq_zero_iff.1 (hz.2.1 rfl)
    subst z4
    have z6 := List.length_eq_zero_iff.1 (hz.2.2.2 rfl)
    subst z6
    obtain ⟨k, e1, e2⟩ := tput_4 _ nm gn P f1 hgm hPt R.pl (e.trans (by simp [fB, List.append_assoc]))
    exact tkN_ok e1 hk e2
  · have e : pB 5 nm gn i2 H P bs = numB 5 ++ fB nm gn := by simp [pB, nmd]
    obtain ⟨f1, _, f3⟩ := R.file rfl
    have hgm : gn ≤ 9007199254740991 := by omega
    have z3 : i2 = 0 := by have := hz.1 rfl; omega
    subst z3
    have z4 := List.length_eq_zero_iff.1 (hz.2.1 rfl)
    subst z4
    have z5 := List.length_eq_zero_iff.1 (hz.2.2.1 rfl)
    subst z5
    have z6 := List.length_eq_zero_iff.1 (hz.2.2.2 rfl)
    subst z6
    obtain ⟨k, e1, e2⟩ := tput_5 _ nm gn f1 hgm (e.trans (by simp [fB, List.append_assoc]))
    exact tkN_ok e1 hk e2
  · have e : pB 6 nm gn i2 H P bs = numB 6 ++ fB nm gn ++ numB i2 := by simp [pB, nmd]
    obtain ⟨f1, _, f3⟩ := R.file rfl
    have hgm : gn ≤ 9007199254740991 := by omega
    have z4 := List.length_eq_zero_iff.1 (hz.2.1 rfl)
    subst z4
    have z5 := List.length_eq_zero_iff.1 (hz.2.2.1 rfl)
    subst z5
    have z6 := List.length_eq_zero_iff.1 (hz.2.2.2 rfl)
    subst z6
    obtain ⟨k, e1, e2⟩ := tput_6 _ nm gn i2 f1 hgm (by omega) (e.trans (by simp [fB, List.append_assoc]))
    exact tkN_ok e1 hk e2
  · have e : pB 7 nm gn i2 H P bs = numB 7 ++ fB nm gn ++ numB i2 ++ (numB bs.length ++ bs) := by simp [pB, nmd]
    obtain ⟨f1, _, f3⟩ := R.file rfl
    have hgm : gn ≤ 9007199254740991 := by omega
    have z4 := List.length_eq_zero_iff.1 (hz.2.1 rfl)
    subst z4
    have z5 := List.length_eq_zero_iff.1 (hz.2.2.1 rfl)
    subst z5
    obtain ⟨k, e1, e2⟩ := tput_7 _ nm gn i2 bs f1 hgm (by omega) R.bl (e.trans (by simp [fB, List.append_assoc]))
    exact tkN_ok e1 hk e2
end Go.Proofs.Ythohpbppfihoiaa

/- Put of what is taken are its bytes, plain. -/
namespace Go.Proofs.Ythohpbppfihoiaa
open Go.RowKit Go.Lib Oct

section
variable {X : List Int} {k : Nat}
theorem tkNum_back {n j : Int} (hb : ∀ x ∈ X, 0 ≤ x ∧ x < 256) (h : tkNum X (k : Int) = (n, j, 0)) : ∃ z k' : Nat, n = z ∧ j = k' ∧ z ≤ 9007199254740991 ∧ k < k' ∧ k' ≤ X.length ∧ X.drop k = numB z ++ X.drop k' := by
  have hok := tkNum_ok X (k : Int) hb (by rw [h])
  rw [h] at hok
  simp only at hok
  have e0 := tkNum_in X k (by omega)
  rw [h] at e0
  have h' : (tkGo 0 0 (X.drop k)).2.2 = 0 := by have := congrArg (fun x => x.2.2) e0; simpa [fin] using this.symm
  obtain ⟨z, e1, e2, _, e4⟩ := take_numB (X.drop k) 0 0 (by omega) (fun x hx => hb x (List.mem_of_mem_drop hx)) h'
  have f1 : n = (tkGo 0 0 (X.drop k)).1 := congrArg (fun x => x.1) e0
  have f2 : j = (k : Int) + (tkGo 0 0 (X.drop k)).2.1 := by have := congrArg (fun x => x.2.1) e0; simpa [fin, h'] using this
  have fz : n = (z : Int) := by rw [f1, e1]; simp
  refine ⟨z, j.toNat, fz, by omega, by omega, by omega, by omega, ?_⟩
  have f3 : j.toNat = k + (tkGo 0 0 (X.drop k)).2.1.toNat := by omega
  rw [e2, f3, ← List.drop_drop, Nat.sub_zero, List.take_append_drop]
theorem nS_back {n j : Int} (hb : ∀ x ∈ X, 0 ≤ x ∧ x < 256) (h : nS X ((k : Int), 0) = (n, (j, 0))) : ∃ z k' : Nat, n = z ∧ j = k' ∧ z ≤ 9007199254740991 ∧ k < k' ∧ k' ≤ X.length ∧ X.drop k = numB z ++ X.drop k' := by
  obtain ⟨⟨a, c, e⟩, ht⟩ : ∃ r, tkNum X (k : Int) = r := ⟨_, rfl⟩
  by_cases he : e = 0
  · subst he
    rw [nS_ok ht] at h
    simp only [Prod.mk.injEq, and_true] at h
    obtain ⟨rfl, rfl⟩ := h
    exact tkNum_back hb ht
  · rw [nS_no ht he] at h
    simp only [Prod.mk.injEq] at h
    exact absurd h.2.2 he
theorem xS_back {ps : List Int} {m j : Int} (hb : ∀ x ∈ X, 0 ≤ x ∧ x < 256) (h : xS X m ((k : Int), 0) = (ps, (j, 0))) : ∃ k' : Nat, j = k' ∧ k' ≤ X.length ∧ (ps.length : Int) ≤ m ∧ ps.length ≤ 9007199254740991 ∧ X.drop k = numB ps.length ++ ps ++ X.drop k' := by
  obtain ⟨⟨a, c, e⟩, ht⟩ : ∃ r, tkText X (k : Int) m = r := ⟨_, rfl⟩
  by_cases he : e = 0
  · subst he
    rw [xS_ok ht] at h
    simp only [Prod.mk.injEq, and_true] at h
    obtain ⟨rfl, rfl⟩ := h
    unfold tkText at ht
    by_cases h0 : (tkNum X (k : Int)).2.2 = 0
    · obtain ⟨⟨n, j', e'⟩, hn⟩ : ∃ r, tkNum X (k : Int) = r := ⟨_, rfl⟩
      rw [hn] at ht h0
      simp only at h0
      subst h0
      simp only [ne_eq, not_true_eq_false, if_false] at ht
      obtain ⟨z, k', rfl, rfl, hz, hk, hk', hd⟩ := tkNum_back hb hn
      by_cases h1 : m < (z : Int)
      · rw [if_pos h1] at ht; simp at ht
      · rw [if_neg h1] at ht
        by_cases h2 : (X.length : Int) - (k' : Int) < (z : Int)
        · rw [if_pos h2] at ht; simp at ht
        · rw [if_neg h2] at ht
          simp only [Int.toNat_natCast, Prod.mk.injEq, and_true] at ht
          obtain ⟨rfl, rfl⟩ := ht
          have hlen : ((X.drop k').take z).length = z := by rw [List.length_take, List.length_drop]; omega
          refine ⟨k' + z, by omega, by omega, by rw [hlen]; omega, by rw [hlen]; exact hz, ?_⟩
          rw [hlen, hd, List.append_assoc, ← List.drop_drop, List.take_append_drop]
    · rw [if_pos h0] at ht
      simp only [Prod.mk.injEq] at ht
      exact absurd ht.2.2 h0
  · rw [xS_no ht he] at h
    simp only [Prod.mk.injEq] at h
    exact absurd h.2.2 he
theorem mem_X {a R : List Int} (hb : ∀ x ∈ X, 0 ≤ x ∧ x < 256) (h : X.drop k = a ++ R) : ∀ z ∈ a, 0 ≤ z ∧ z < 256 := fun z hz => hb z (List.mem_of_mem_drop (by rw [h]; exact List.mem_append_left _ hz))
theorem fB_back {ps : List Int} {z : Nat} (hb : ∀ x ∈ ps, 0 ≤ x ∧ x < 256) : fB (strOfNums ps) z = numB ps.length ++ ps ++ numB z := by
  unfold fB
  rw [strOfNums_size, strBs_of ps hb]
theorem hS_back {x : Hd} {j : Int} (hb : ∀ x ∈ X, 0 ≤ x ∧ x < 256) (_hk : k ≤ X.length) (h : hS X ((k : Int), 0) = (x, (j, 0))) : ∃ k' : Nat, j = k' ∧ k' ≤ X.length ∧ X.drop k = hB x ++ X.drop k' := by
  unfold hS at h
  obtain ⟨⟨ps, s1⟩, q1⟩ : ∃ r, xS X 32 ((k : Int), 0) = r := ⟨_, rfl⟩
  rw [q1] at h
  simp only [Prod.mk.injEq] at h
  obtain ⟨rfl, h2⟩ := h
  obtain ⟨i1, f1⟩ := s1
  have z1 : f1 = 0 := by
    rcases Decidable.em (f1 = 0) with e | e
    · exact e
    · rw [nS_f (st := (i1, f1)) e] at h2
      simp only [Prod.mk.injEq] at h2
      exact h2.2
  subst z1
  obtain ⟨k1, rfl, hk1, _, _, d1⟩ := xS_back hb q1
  obtain ⟨⟨n, s2⟩, q2⟩ : ∃ r, nS X ((k1 : Int), 0) = r := ⟨_, rfl⟩
  rw [q2] at h2
  simp only at h2
  subst h2
  obtain ⟨z, k2, rfl, rfl, _, _, hk2, d2⟩ := nS_back hb q2
  refine ⟨k2, rfl, hk2, ?_⟩
  rw [q2]
  have hps : ∀ z ∈ ps, 0 ≤ z ∧ z < 256 := fun z hz => mem_X hb d1 z (List.mem_append_right _ hz)
  unfold hB
  simp only [Int.toNat_natCast]
  rw [fB_back hps, d1, d2]
  simp only [List.append_assoc]
theorem pS_back {x : Pt} {j : Int} (hb : ∀ x ∈ X, 0 ≤ x ∧ x < 256) (_hk : k ≤ X.length) (h : pS X ((k : Int), 0) = (x, (j, 0))) : ∃ k' : Nat, j = k' ∧ k' ≤ X.length ∧ X.drop k = qB x ++ X.drop k' := by
  unfold pS at h
  by_cases hs : X.length < k + 32
  · rw [sS_short hs] at h
    rw [nS_f (st := ((k : Int), 3)) (by simp)] at h
    simp at h
  · rw [sS_long (by omega)] at h
    simp only [Prod.mk.injEq] at h
    obtain ⟨rfl, h2⟩ := h
    obtain ⟨⟨n, s2⟩, q2⟩ : ∃ r, nS X (((k + 32 : Nat) : Int), 0) = r := ⟨_, rfl⟩
    have e : ((k : Int) + 32) = ((k + 32 : Nat) : Int) := by omega
    rw [e, q2] at h2
    simp only at h2
    subst h2
    obtain ⟨z, k2, rfl, rfl, _, _, hk2, d2⟩ := nS_back hb q2
    refine ⟨k2, rfl, hk2, ?_⟩
    rw [e, q2]
    unfold qB
    simp only [Int.toNat_natCast]
    rw [List.append_assoc, ← d2, ← List.drop_drop, List.take_append_drop]
end
theorem rep_back {α : Type} {X : List Int} (f : St → α × St) (F : α → List Int) (hf : ∀ (x : α) (k : Nat) (j : Int), k ≤ X.length → f ((k : Int), 0) = (x, (j, 0)) → ∃ k' : Nat, j = k' ∧ k' ≤ X.length ∧ X.drop k = F x ++ X.drop k') : ∀ (m k : Nat) (L : List α) (j : Int), k ≤ X.length → rep f m ((k : Int), 0) = (L, (j, 0)) → L.length = m ∧ ∃ k' : Nat, j = k' ∧ k' ≤ X.length ∧ X.drop k = L.flatMap F ++ X.drop k'
  | 0, k, L, j, hk, h => by
    simp only [rep, Prod.mk.injEq, and_true] at h
    obtain ⟨rfl, rfl⟩ := h
    exact ⟨rfl, k, rfl, hk, by simp⟩
  | m + 1, k, L, j, hk, h => by
    rw [rep_ok _ _ _ rfl] at h
    obtain ⟨⟨x, s1⟩, q1⟩ : ∃ r, f ((k : Int), 0) = r := ⟨_, rfl⟩
    rw [q1] at h
    simp only [Prod.mk.injEq] at h
    obtain ⟨rfl, h2⟩ := h
    obtain ⟨i1, f1⟩ := s1
    have z1 : f1 = 0 := by
      rcases Decidable.em (f1 = 0) with e | e
      · exact e
      · rw [rep_stop f m (i1, f1) e] at h2
        simp only [Prod.mk.injEq] at h2
        exact h2.2
    subst z1
    obtain ⟨k1, rfl, hk1, d1⟩ := hf x k i1 hk q1
    obtain ⟨⟨L', s2⟩, q2⟩ : ∃ r, rep f m ((k1 : Int), 0) = r := ⟨_, rfl⟩
    rw [q2] at h2
    simp only at h2
    subst h2
    obtain ⟨e1, k2, e2, hk2, d2⟩ := rep_back f F hf m k1 L' j hk1 q2
    rw [q2]
    refine ⟨by simp only [List.length_cons]; omega, k2, e2, hk2, ?_⟩
    simp only [List.flatMap_cons, List.append_assoc]
    rw [d1, d2]
theorem lS_back {α : Type} {X : List Int} {k m : Nat} {L : List α} {j : Int} (hb : ∀ x ∈ X, 0 ≤ x ∧ x < 256) (f : St → α × St) (F : α → List Int) (hf : ∀ (x : α) (k : Nat) (j : Int), k ≤ X.length → f ((k : Int), 0) = (x, (j, 0)) → ∃ k' : Nat, j = k' ∧ k' ≤ X.length ∧ X.drop k = F x ++ X.drop k') (h : lS X (m : Int) f ((k : Int), 0) = (L, (j, 0))) : ∃ k' : Nat, j = k' ∧ k' ≤ X.length ∧ X.drop k = lB F L ++ X.drop k' := by
  obtain ⟨⟨n, i1, f1⟩, q1⟩ : ∃ r, nS X ((k : Int), 0) = r := ⟨_, rfl⟩
  have z1 : f1 = 0 := by
    rcases Decidable.em (f1 = 0) with e | e
    · exact e
    · rw [lS_err (by rw [q1]; exact e), q1] at h
      simp only [Prod.mk.injEq] at h
      exact h.2.2
  subst z1
  obtain ⟨z, k1, rfl, rfl, _, _, hk1, d1⟩ := nS_back hb q1
  by_cases hbig : (m : Int) < (z : Int)
  · rw [lS_big q1 hbig] at h
    simp at h
  · rw [lS_small q1 hbig] at h
    obtain ⟨e1, k2, e2, hk2, d2⟩ := rep_back f F hf z k1 L j hk1 h
    refine ⟨k2, e2, hk2, ?_⟩
    unfold lB
    rw [e1, d1, d2, List.append_assoc]
section
variable {m : Nm} {bs : List Int} {s : Int} {s1 st : St}
theorem zS (h : (noteK m bs s s1).2.2 = 0) : s1.2 = 0 := by
  rcases Decidable.em (s1.2 = 0) with e | e
  · exact e
  · rw [fS e] at h; exact h
theorem zP (he : stP m bs s1 = st) (h : (noteK m bs s s1).2.2 = 0) : st.2 = 0 := by
  rcases Decidable.em (st.2 = 0) with e | e
  · exact e
  · rw [fP he e] at h; exact h
theorem zG (he : stG m bs s1 = st) (h : (noteK m bs s s1).2.2 = 0) : st.2 = 0 := by
  rcases Decidable.em (st.2 = 0) with e | e
  · exact e
  · rw [fG he e] at h; exact h
theorem zI (he : stI m bs s1 = st) (h : (noteK m bs s s1).2.2 = 0) : st.2 = 0 := by
  rcases Decidable.em (st.2 = 0) with e | e
  · exact e
  · rw [fI he e] at h; exact h
end
theorem tkN_inv {X : List Int} {o : Nt} (h : tkN X = (o, 0)) : chkN o = 0 ∧ ∃ k : Int, noteS X (0, 0) = (o, (k, 0)) ∧ ¬ k < (X.length : Int) := by
  obtain ⟨⟨n, i, f⟩, q⟩ : ∃ r, noteS X (0, 0) = r := ⟨_, rfl⟩
  by_cases hf : f = 0
  · subst hf
    by_cases hc : chkN n = 0
    · by_cases hi : i < (X.length : Int)
      · rw [tkN_form q hc hi] at h; simp at h
      · rw [tkN_ok q hc hi] at h
        simp only [Prod.mk.injEq, and_true] at h
        subst h
        exact ⟨hc, i, q, hi⟩
    · rw [tkN_chk q hc] at h
      simp only [Prod.mk.injEq] at h
      exact absurd h.2 hc
  · rw [tkN_of (st := (i, f)) (by rw [q]) hf] at h
    simp only [Prod.mk.injEq] at h
    exact absurd h.2 hf
theorem put_take {X : List Int} {o : Nt} (hb : ∀ x ∈ X, 0 ≤ x ∧ x < 256) (h : tkN X = (o, 0)) : putN o = (X, 0) := by
  obtain ⟨hc, kf, hn, hkf⟩ := tkN_inv h
  have hlast : X.drop kf.toNat = [] := List.drop_eq_nil_of_le (by omega)
  suffices hX : pB o.s o.nm o.g.toNat o.i.toNat o.H o.P o.bs = X by unfold putN; rw [if_pos hc, hX]
  unfold noteS at hn
  obtain ⟨⟨s, s1⟩, q0⟩ : ∃ r, nS X (0, 0) = r := ⟨_, rfl⟩
  rw [q0] at hn
  simp only at hn
  cases hs : isS s with
  | false =>
    rw [hs, if_neg (by decide)] at hn
    have z := zS (by rw [hn])
    exact absurd z (flS_fault s1 4 (by decide))
  | true =>
    rw [hs, if_pos rfl] at hn
    have z0 := zS (by rw [hn])
    obtain ⟨i0, f0⟩ := s1
    simp only at z0
    subst z0
    obtain ⟨zs, k0, rfl, rfl, _, _, hk0, d0⟩ := nS_back (k := 0) hb q0
    rw [List.drop_zero] at d0
    clear q0 h hc
    rcases say7 hs with e | e | e | e | e | e | e
    · obtain rfl : zs = 1 := by omega
      have hn : noteK (false, false, false, false, false) X (1 : Int) ((k0 : Int), 0) = (o, (kf, 0)) := hn
      unfold noteK at hn
      simp only [cond_false, strOf_nil] at hn
      simp only [Prod.mk.injEq] at hn
      obtain ⟨rfl, h6⟩ := hn
      have h6 : ((k0 : Nat) : Int) = kf := h6.1
      subst h6
      rw [Int.toNat_natCast] at hlast
      have e1 : pB 1 { data := #[] } (0 : Nat) (0 : Nat) [] [] [] = numB 1 := by simp [pB, nmd]
      refine e1.trans ?_
      rw [d0, hlast]
      simp only [List.append_nil]
    · obtain rfl : zs = 2 := by omega
      have hn : noteK (false, false, true, false, false) X (2 : Int) ((k0 : Int), 0) = (o, (kf, 0)) := hn
      obtain ⟨⟨L, i4, f4⟩, q4⟩ : ∃ r, lS X 64 (hS X) ((k0 : Int), 0) = r := ⟨_, rfl⟩
      unfold noteK at hn
      simp only [cond_true, cond_false, strOf_nil, q4] at hn
      simp only [Prod.mk.injEq] at hn
      obtain ⟨rfl, h4⟩ := hn
      obtain ⟨rfl, rfl⟩ := h4
      obtain ⟨k4, rfl, hk4, d4⟩ := lS_back (m := 64) hb (hS X) hB (fun x k j hk h => hS_back hb hk h) q4
      rw [Int.toNat_natCast] at hlast
      have e1 : pB 2 { data := #[] } (0 : Nat) (0 : Nat) L [] [] = numB 2 ++ lB hB L := by simp [pB, nmd]
      refine e1.trans ?_
      rw [d0, d4, hlast]
      simp only [List.append_nil]
    · obtain rfl : zs = 3 := by omega
      have hn : noteK (true, false, false, false, false) X (3 : Int) ((k0 : Int), 0) = (o, (kf, 0)) := hn
      obtain ⟨⟨ps, i1, f1⟩, q1⟩ : ∃ r, xS X 32 ((k0 : Int), 0) = r := ⟨_, rfl⟩
      have z1 : f1 = 0 := zP (m := (true, false, false, false, false)) (bs := X) (s := 3) (s1 := ((k0 : Int), 0)) (st := (i1, f1)) (by show (xS X 32 ((k0 : Int), 0)).2 = _; rw [q1]) (by rw [hn])
      subst z1
      obtain ⟨k1, rfl, hk1, _, _, d1⟩ := xS_back hb q1
      obtain ⟨⟨g, i2, f2⟩, q2⟩ : ∃ r, nS X ((k1 : Int), 0) = r := ⟨_, rfl⟩
      have z2 : f2 = 0 := zG (m := (true, false, false, false, false)) (bs := X) (s := 3) (s1 := ((k0 : Int), 0)) (st := (i2, f2)) (by show (nS X (xS X 32 ((k0 : Int), 0)).2).2 = _; rw [q1]; simp only; rw [q2]) (by rw [hn])
      subst z2
      obtain ⟨zg, k2, rfl, rfl, _, _, hk2, d2⟩ := nS_back hb q2
      have hps : ∀ z ∈ ps, 0 ≤ z ∧ z < 256 := fun z hz => mem_X hb d1 z (List.mem_append_right _ hz)
      unfold noteK at hn
      simp only [cond_true, cond_false, q1, q2] at hn
      simp only [Prod.mk.injEq] at hn
      obtain ⟨rfl, h6⟩ := hn
      have h6 : ((k2 : Nat) : Int) = kf := h6.1
      subst h6
      rw [Int.toNat_natCast] at hlast
      have e1 : pB 3 (strOfNums ps) zg (0 : Nat) [] [] [] = numB 3 ++ fB (strOfNums ps) zg := by simp [pB, nmd]
      refine e1.trans ?_
      rw [fB_back hps]
      rw [d0, d1, d2, hlast]
      simp only [List.append_assoc, List.append_nil]
    · obtain rfl : zs = 4 := by omega
      have hn : noteK (true, false, false, true, false) X (4 : Int) ((k0 : Int), 0) = (o, (kf, 0)) := hn
      obtain ⟨⟨ps, i1, f1⟩, q1⟩ : ∃ r, xS X 32 ((k0 : Int), 0) = r := ⟨_, rfl⟩
      have z1 : f1 = 0 := zP (m := (true, false, false, true, false)) (bs := X) (s := 4) (s1 := ((k0 : Int), 0)) (st := (i1, f1)) (by show (xS X 32 ((k0 : Int), 0)).2 = _; rw [q1]) (by rw [hn])
      subst z1
      obtain ⟨k1, rfl, hk1, _, _, d1⟩ := xS_back hb q1
      obtain ⟨⟨g, i2, f2⟩, q2⟩ : ∃ r, nS X ((k1 : Int), 0) = r := ⟨_, rfl⟩
      have z2 : f2 = 0 := zG (m := (true, false, false, true, false)) (bs := X) (s := 4) (s1 := ((k0 : Int), 0)) (st := (i2, f2)) (by show (nS X (xS X 32 ((k0 : Int), 0)).2).2 = _; rw [q1]; simp only; rw [q2]) (by rw [hn])
      subst z2
      obtain ⟨zg, k2, rfl, rfl, _, _, hk2, d2⟩ := nS_back hb q2
      have hps : ∀ z ∈ ps, 0 ≤ z ∧ z < 256 := fun z hz => mem_X hb d1 z (List.mem_append_right _ hz)
      obtain ⟨⟨L, i4, f4⟩, q4⟩ : ∃ r, lS X 256 (pS X) ((k2 : Int), 0) = r := ⟨_, rfl⟩
      unfold noteK at hn
      simp only [cond_true, cond_false, q1, q2, q4] at hn
      simp only [Prod.mk.injEq] at hn
      obtain ⟨rfl, h4⟩ := hn
      obtain ⟨rfl, rfl⟩ := h4
      obtain ⟨k4, rfl, hk4, d4⟩ := lS_back (m := 256) hb (pS X) qB (fun x k j hk h => pS_back hb hk h) q4
      rw [Int.toNat_natCast] at hlast
      have e1 : pB 4 (strOfNums ps) zg (0 : Nat) [] L [] = numB 4 ++ fB (strOfNums ps) zg ++ lB qB L := by simp [pB, nmd]
      refine e1.trans ?_
      rw [fB_back hps]
      rw [d0, d1, d2, d4, hlast]
      simp only [List.append_assoc, List.append_nil]
    · obtain rfl : zs = 5 := by omega
      have hn : noteK (true, false, false, false, false) X (5 : Int) ((k0 : Int), 0) = (o, (kf, 0)) := hn
      obtain ⟨⟨ps, i1, f1⟩, q1⟩ : ∃ r, xS X 32 ((k0 : Int), 0) = r := ⟨_, rfl⟩
      have z1 : f1 = 0 := zP (m := (true, false, false, false, false)) (bs := X) (s := 5) (s1 := ((k0 : Int), 0)) (st := (i1, f1)) (by show (xS X 32 ((k0 : Int), 0)).2 = _; rw [q1]) (by rw [hn])
      subst z1
      obtain ⟨k1, rfl, hk1, _, _, d1⟩ := xS_back hb q1
      obtain ⟨⟨g, i2, f2⟩, q2⟩ : ∃ r, nS X ((k1 : Int), 0) = r := ⟨_, rfl⟩
      have z2 : f2 = 0 := zG (m := (true, false, false, false, false)) (bs := X) (s := 5) (s1 := ((k0 : Int), 0)) (st := (i2, f2)) (by show (nS X (xS X 32 ((k0 : Int), 0)).2).2 = _; rw [q1]; simp only; rw [q2]) (by rw [hn])
      subst z2
      obtain ⟨zg, k2, rfl, rfl, _, _, hk2, d2⟩ := nS_back hb q2
      have hps : ∀ z ∈ ps, 0 ≤ z ∧ z < 256 := fun z hz => mem_X hb d1 z (List.mem_append_right _ hz)
      unfold noteK at hn
      simp only [cond_true, cond_false, q1, q2] at hn
      simp only [Prod.mk.injEq] at hn
      obtain ⟨rfl, h6⟩ := hn
      have h6 : ((k2 : Nat) : Int) = kf := h6.1
      subst h6
      rw [Int.toNat_natCast] at hlast
      have e1 : pB 5 (strOfNums ps) zg (0 : Nat) [] [] [] = numB 5 ++ fB (strOfNums ps) zg := by simp [pB, nmd]
      refine e1.trans ?_
      rw [fB_back hps]
      rw [d0, d1, d2, hlast]
      simp only [List.append_assoc, List.append_nil]
    · obtain rfl : zs = 6 := by omega
      have hn : noteK (true, true, false, false, false) X (6 : Int) ((k0 : Int), 0) = (o, (kf, 0)) := hn
      obtain ⟨⟨ps, i1, f1⟩, q1⟩ : ∃ r, xS X 32 ((k0 : Int), 0) = r := ⟨_, rfl⟩
      have z1 : f1 = 0 := zP (m := (true, true, false, false, false)) (bs := X) (s := 6) (s1 := ((k0 : Int), 0)) (st := (i1, f1)) (by show (xS X 32 ((k0 : Int), 0)).2 = _; rw [q1]) (by rw [hn])
      subst z1
      obtain ⟨k1, rfl, hk1, _, _, d1⟩ := xS_back hb q1
      obtain ⟨⟨g, i2, f2⟩, q2⟩ : ∃ r, nS X ((k1 : Int), 0) = r := ⟨_, rfl⟩
      have z2 : f2 = 0 := zG (m := (true, true, false, false, false)) (bs := X) (s := 6) (s1 := ((k0 : Int), 0)) (st := (i2, f2)) (by show (nS X (xS X 32 ((k0 : Int), 0)).2).2 = _; rw [q1]; simp only; rw [q2]) (by rw [hn])
      subst z2
      obtain ⟨zg, k2, rfl, rfl, _, _, hk2, d2⟩ := nS_back hb q2
      have hps : ∀ z ∈ ps, 0 ≤ z ∧ z < 256 := fun z hz => mem_X hb d1 z (List.mem_append_right _ hz)
      obtain ⟨⟨i, i3, f3⟩, q3⟩ : ∃ r, nS X ((k2 : Int), 0) = r := ⟨_, rfl⟩
      have z3 : f3 = 0 := zI (m := (true, true, false, false, false)) (bs := X) (s := 6) (s1 := ((k0 : Int), 0)) (st := (i3, f3)) (by show (nS X (nS X (xS X 32 ((k0 : Int), 0)).2).2).2 = _; rw [q1]; simp only; rw [q2]; simp only; rw [q3]) (by rw [hn])
      subst z3
      obtain ⟨zi, k3, rfl, rfl, _, _, hk3, d3⟩ := nS_back hb q3
      unfold noteK at hn
      simp only [cond_true, cond_false, q1, q2, q3] at hn
      simp only [Prod.mk.injEq] at hn
      obtain ⟨rfl, h6⟩ := hn
      have h6 : ((k3 : Nat) : Int) = kf := h6.1
      subst h6
      rw [Int.toNat_natCast] at hlast
      have e1 : pB 6 (strOfNums ps) zg zi [] [] [] = numB 6 ++ fB (strOfNums ps) zg ++ numB zi := by simp [pB, nmd]
      refine e1.trans ?_
      rw [fB_back hps]
      rw [d0, d1, d2, d3, hlast]
      simp only [List.append_assoc, List.append_nil]
    · obtain rfl : zs = 7 := by omega
      have hn : noteK (true, true, false, false, true) X (7 : Int) ((k0 : Int), 0) = (o, (kf, 0)) := hn
      obtain ⟨⟨ps, i1, f1⟩, q1⟩ : ∃ r, xS X 32 ((k0 : Int), 0) = r := ⟨_, rfl⟩
      have z1 : f1 = 0 := zP (m := (true, true, false, false, true)) (bs := X) (s := 7) (s1 := ((k0 : Int), 0)) (st := (i1, f1)) (by show (xS X 32 ((k0 : Int), 0)).2 = _; rw [q1]) (by rw [hn])
      subst z1
      obtain ⟨k1, rfl, hk1, _, _, d1⟩ := xS_back hb q1
      obtain ⟨⟨g, i2, f2⟩, q2⟩ : ∃ r, nS X ((k1 : Int), 0) = r := ⟨_, rfl⟩
      have z2 : f2 = 0 := zG (m := (true, true, false, false, true)) (bs := X) (s := 7) (s1 := ((k0 : Int), 0)) (st := (i2, f2)) (by show (nS X (xS X 32 ((k0 : Int), 0)).2).2 = _; rw [q1]; simp only; rw [q2]) (by rw [hn])
      subst z2
      obtain ⟨zg, k2, rfl, rfl, _, _, hk2, d2⟩ := nS_back hb q2
      have hps : ∀ z ∈ ps, 0 ≤ z ∧ z < 256 := fun z hz => mem_X hb d1 z (List.mem_append_right _ hz)
      obtain ⟨⟨i, i3, f3⟩, q3⟩ : ∃ r, nS X ((k2 : Int), 0) = r := ⟨_, rfl⟩
      have z3 : f3 = 0 := zI (m := (true, true, false, false, true)) (bs := X) (s := 7) (s1 := ((k0 : Int), 0)) (st := (i3, f3)) (by show (nS X (nS X (xS X 32 ((k0 : Int), 0)).2).2).2 = _; rw [q1]; simp only; rw [q2]; simp only; rw [q3]) (by rw [hn])
      subst z3
      obtain ⟨zi, k3, rfl, rfl, _, _, hk3, d3⟩ := nS_back hb q3
      obtain ⟨⟨y, i5, f5⟩, q5⟩ : ∃ r, xS X 512 ((k3 : Int), 0) = r := ⟨_, rfl⟩
      unfold noteK at hn
      simp only [cond_true, cond_false, q1, q2, q3, q5] at hn
      simp only [Prod.mk.injEq] at hn
      obtain ⟨rfl, h5⟩ := hn
      obtain ⟨rfl, rfl⟩ := h5
      obtain ⟨k5, rfl, hk5, _, _, d5⟩ := xS_back hb q5
      rw [Int.toNat_natCast] at hlast
      have e1 : pB 7 (strOfNums ps) zg zi [] [] y = numB 7 ++ fB (strOfNums ps) zg ++ numB zi ++ (numB y.length ++ y) := by simp [pB, nmd]
      refine e1.trans ?_
      rw [fB_back hps]
      rw [d0, d1, d2, d3, d5, hlast]
      simp only [List.append_assoc, List.append_nil]
end Go.Proofs.Ythohpbppfihoiaa

/- A note's bytes are bytes, and few, plain. -/
namespace Go.Proofs.Ythohpbppfihoiaa
open Go.RowKit Go.Lib Oct

def Byt (l : List Int) : Prop := ∀ x ∈ l, 0 ≤ x ∧ x < 256
theorem Byt.app {a b : List Int} (ha : Byt a) (hb : Byt b) : Byt (a ++ b) := fun x hx => (List.mem_append.1 hx).elim (ha x) (hb x)
theorem byt_nil : Byt [] := fun x hx => by cases hx
theorem byt_num (n : Nat) : Byt (numB n) := numB_byte n
theorem byt_str (s : ByteArray) : Byt (strBs s) := fun x hx => by
  unfold strBs at hx
  obtain ⟨c, _, rfl⟩ := List.mem_map.1 hx
  have := c.toNat_lt
  omega
theorem byt_ite {c : Bool} {a : List Int} (h : c = true → Byt a) : Byt (if c then a else []) := by
  cases c with
  | true => exact h rfl
  | false => exact byt_nil
theorem byt_fm {α : Type} {f : α → List Int} {L : List α} (h : ∀ x ∈ L, Byt (f x)) : Byt (L.flatMap f) := fun x hx => by
  obtain ⟨y, hy, hxy⟩ := List.mem_flatMap.1 hx
  exact h y hy x hxy
theorem len_ite {c : Bool} {a : List Int} {k : Nat} (h : c = true → a.length ≤ k) : (if c then a else []).length ≤ k := by
  cases c with
  | true => exact h rfl
  | false => exact Nat.zero_le _
theorem putN_ok {n : Nt} (hP : ∀ p ∈ n.P, Sum32 p.1) (hY : Byt n.bs) : Byt (putN n).1 ∧ (putN n).1.length ≤ 1000000 := by
  by_cases h : chkN n = 0
  · have R := right_of (show chk n.s n.nm n.g n.i n.H n.P n.bs.length = 0 from h)
    unfold putN
    rw [if_pos h]
    have bf : ∀ (s : ByteArray) (g : Nat), Byt (fB s g) := fun s g => ((byt_num _).app (byt_str s)).app (byt_num g)
    have hPt : ∀ x ∈ n.P, PtB x := fun x hx => R.pt x hx (hP x hx).len
    have l8 : ∀ k : Nat, k ≤ 9007199254740991 → (numB k).length ≤ 8 := fun k hk => numB_len8 k hk
    refine ⟨?_, ?_⟩
    · unfold pB
      refine ((((Byt.app ?_ ?_).app ?_).app ?_).app ?_).app ?_
      · exact byt_num _
      · exact byt_ite fun _ => bf _ _
      · exact byt_ite fun _ => byt_num _
      · exact byt_ite fun _ => (byt_num _).app (byt_fm fun x _ => bf _ _)
      · exact byt_ite fun _ => (byt_num _).app (byt_fm fun x hx => (show Byt x.1 from (hP x hx).byte).app (byt_num _))
      · exact byt_ite fun _ => (byt_num _).app hY
    · have hs : n.s.toNat ≤ 7 := by rcases say7 R.say with e | e | e | e | e | e | e <;> rw [e] <;> decide
      have a1 := l8 n.s.toNat (by omega)
      have a2 : (if (nmd n.s).1 then fB n.nm ((n.g.toNat : Nat) : Int).toNat else []).length ≤ 48 := len_ite fun e => by
        obtain ⟨f1, f2, f3⟩ := R.file e
        have b1 := l8 n.nm.size (by omega)
        have b2 := l8 ((n.g.toNat : Nat) : Int).toNat (by omega)
        have b3 := strBs_len n.nm
        unfold fB
        simp only [List.length_append]
        omega
      have a3 : (if (nmd n.s).2.1 then numB ((n.i.toNat : Nat) : Int).toNat else []).length ≤ 8 := len_ite fun _ => l8 _ (by have := R.i.2; omega)
      have a4 : (if (nmd n.s).2.2.1 then lB hB n.H else []).length ≤ 8 + 64 * 64 := len_ite fun _ => by
        have b1 := l8 n.H.length (by have := R.hl; omega)
        have b2 := fm_len n.H (fun x hx => hB_len x (R.hd x hx))
        have b3 := R.hl
        unfold lB
        simp only [List.length_append]
        omega
      have a5 : (if (nmd n.s).2.2.2.1 then lB qB n.P else []).length ≤ 8 + 64 * 256 := len_ite fun _ => by
        have b1 := l8 n.P.length (by have := R.pl; omega)
        have b2 := fm_len n.P (fun x hx => qB_len x (hPt x hx))
        have b3 := R.pl
        unfold lB
        simp only [List.length_append]
        omega
      have a6 : (if (nmd n.s).2.2.2.2 then numB n.bs.length ++ n.bs else []).length ≤ 8 + 512 := len_ite fun _ => by
        have b1 := l8 n.bs.length (by have := R.bl; omega)
        have b3 := R.bl
        simp only [List.length_append]
        omega
      unfold pB
      simp only [List.length_append]
      omega
  · unfold putN
    rw [if_neg h]
    exact ⟨byt_nil, by simp⟩
end Go.Proofs.Ythohpbppfihoiaa
