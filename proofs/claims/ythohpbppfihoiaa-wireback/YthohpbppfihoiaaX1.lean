/- A taker: its place and fault; fail, step, num, text, name. -/
import Derived.Test.YthohpbppfihoiaaV4
import Derived.Test.YthohpbppfihoiaaOctT
namespace Go.Proofs.Ythohpbppfihoiaa
open Go.RowKit

/-- Where a taker stands, and its fault. -/
abbrev St := Int × Int
def flS (st : St) (e : Int) : St := if st.2 = 0 then (st.1, e) else st
def nS (bs : List Int) (st : St) : Int × St :=
  if st.2 = 0 then ((Oct.tkNum bs st.1).1, if (Oct.tkNum bs st.1).2.2 = 0 then ((Oct.tkNum bs st.1).2.1, 0) else (st.1, (Oct.tkNum bs st.1).2.2)) else (0, st)
def xS (bs : List Int) (most : Int) (st : St) : List Int × St :=
  if st.2 = 0 then ((Oct.tkText bs st.1 most).1, if (Oct.tkText bs st.1 most).2.2 = 0 then ((Oct.tkText bs st.1 most).2.1, 0) else (st.1, (Oct.tkText bs st.1 most).2.2)) else ([], st)
/-- A taker stands within its bytes. -/
def InS (bs : List Int) (st : St) : Prop := 0 ≤ st.1 ∧ st.1 ≤ (bs.length : Int)
theorem flS_in {bs : List Int} {st : St} (h : InS bs st) (e : Int) : InS bs (flS st e) := by
  unfold flS; split <;> exact h
theorem nS_in {bs : List Int} {st : St} (hb : ∀ x ∈ bs, 0 ≤ x ∧ x < 256) (h : InS bs st) : InS bs (nS bs st).2 := by
  unfold nS
  by_cases h0 : st.2 = 0
  · rw [if_pos h0]
    by_cases h1 : (Oct.tkNum bs st.1).2.2 = 0
    · rw [if_pos h1]
      have := Oct.tkNum_ok bs st.1 hb h1
      exact ⟨by simp only; omega, by simp only; omega⟩
    · rw [if_neg h1]; exact h
  · rw [if_neg h0]; exact h
theorem tkGo_err (r : List Int) : ∀ (j m : Nat), (Oct.tkGo j m r).2.2 ≠ 0 → (Oct.tkGo j m r).1 = 0 := by
  induction r with
  | nil => intro j m _; rfl
  | cons x r ih =>
    intro j m h
    by_cases h1 : j = 7 ∧ 15 < x
    · rw [Oct.tkGo_lim _ _ _ _ h1]
    · rw [Oct.tkGo, if_neg h1] at h ⊢
      by_cases h2 : 128 ≤ x
      · rw [if_pos h2] at h ⊢
        exact ih _ _ h
      · rw [if_neg h2] at h ⊢
        by_cases h3 : x = 0 ∧ 0 < j
        · rw [if_pos h3]
        · rw [if_neg h3] at h; exact absurd rfl h
theorem tkNum_err (bs : List Int) (i : Int) (h : (Oct.tkNum bs i).2.2 ≠ 0) : (Oct.tkNum bs i).1 = 0 := by
  unfold Oct.tkNum at h ⊢
  split
  · rename_i hi
    rw [if_pos hi] at h
    exact tkGo_err _ 0 0 h
  · rfl
theorem nS_num {bs : List Int} {st : St} (hb : ∀ x ∈ bs, 0 ≤ x ∧ x < 256) : 0 ≤ (nS bs st).1 ∧ (nS bs st).1 ≤ 9007199254740991 := by
  unfold nS
  by_cases h0 : st.2 = 0
  · rw [if_pos h0]
    by_cases h1 : (Oct.tkNum bs st.1).2.2 = 0
    · have := Oct.tkNum_ok bs st.1 hb h1
      exact ⟨by simp only; omega, by simp only; omega⟩
    · have := tkNum_err bs st.1 h1
      simp only [this]; decide
  · rw [if_neg h0]; exact ⟨Int.le_refl 0, by simp only; omega⟩
theorem xS_in {bs : List Int} {st : St} (hb : ∀ x ∈ bs, 0 ≤ x ∧ x < 256) (m : Int) (h : InS bs st) : InS bs (xS bs m st).2 := by
  unfold xS
  by_cases h0 : st.2 = 0
  · rw [if_pos h0]
    by_cases h1 : (Oct.tkText bs st.1 m).2.2 = 0
    · rw [if_pos h1]
      unfold Oct.tkText at h1 ⊢
      by_cases a : (Oct.tkNum bs st.1).2.2 ≠ 0
      · rw [if_pos a] at h1; exact absurd h1 a
      · rw [if_neg a] at h1 ⊢
        have := Oct.tkNum_ok bs st.1 hb (by simpa using a)
        by_cases b : m < (Oct.tkNum bs st.1).1
        · rw [if_pos b] at h1; simp at h1
        · rw [if_neg b] at h1 ⊢
          by_cases c : (bs.length : Int) - (Oct.tkNum bs st.1).2.1 < (Oct.tkNum bs st.1).1
          · rw [if_pos c] at h1; simp at h1
          · rw [if_neg c]; exact ⟨by simp only; omega, by simp only; omega⟩
    · rw [if_neg h1]; exact h
  · rw [if_neg h0]; exact h
def tkc (v : Value) (st : St) : Array Value := #[v, .int .i64 st.1, .int .i64 st.2]
/-- A taker in memory. -/
structure Tk (w : World) (q : Nat) (v : Value) (st : St) : Prop where
  row : w.heap[q]? = some (.cells (tkc v st) 60 (0, 0))
theorem Tk.lt {w : World} {q : Nat} {v : Value} {st : St} (h : Tk w q v st) : q < w.heap.size := (Array.getElem?_eq_some_iff.1 h.row).1
theorem Tk.c0 {w : World} {q : Nat} {v : Value} {st : St} (h : Tk w q v st) : w.cell? ⟨q, 0, none⟩ = some v := by rw [cell_of_row _ _ _ _ _ _ h.row]; rfl
theorem Tk.c1 {w : World} {q : Nat} {v : Value} {st : St} (h : Tk w q v st) : w.cell? ⟨q, 1, none⟩ = some (.int .i64 st.1) := by rw [cell_of_row _ _ _ _ _ _ h.row]; rfl
theorem Tk.c2 {w : World} {q : Nat} {v : Value} {st : St} (h : Tk w q v st) : w.cell? ⟨q, 2, none⟩ = some (.int .i64 st.2) := by rw [cell_of_row _ _ _ _ _ _ h.row]; rfl
theorem Tk.far {w w' : World} {q : Nat} {v : Value} {st : St} {X : List Nat} (h : Tk w q v st) (hc : Chg X w w') (hx : q ∉ X) : Tk w' q v st := ⟨(hc.block q h.lt hx).trans h.row⟩
theorem Tk.at' {w : World} {q : Nat} {v : Value} {st : St} (h : Tk w q v st) (j : Int) : Tk (w.setCell ⟨q, 1, none⟩ (.int .i64 j)) q v (j, st.2) := ⟨heap_setCell_same w q 1 _ 60 _ h.row⟩
theorem Tk.fail {w : World} {q : Nat} {v : Value} {st : St} (h : Tk w q v st) (e : Int) : Tk (w.setCell ⟨q, 2, none⟩ (.int .i64 e)) q v (st.1, e) := ⟨heap_setCell_same w q 2 _ 60 _ h.row⟩
theorem Tk.fz {w : World} {q : Nat} {v : Value} {st : St} (h : Tk w q v st) (j : Nat) : w.frozen? ⟨q, j, none⟩ = false := frozen_of_row w q j _ 60 h.row
/-- Bytes that lie below a mark. -/
def Old (B : Nat) (w : World) (v : Value) (bs : List Int) : Prop := ∀ wx, Below B w wx → Oct.Bs wx v bs
theorem Old.at {B : Nat} {w : World} {v : Value} {bs : List Int} (h : Old B w v bs) : Oct.Bs w v bs := h w (Below.refl B w)
theorem Old.on {B : Nat} {w w' : World} {v : Value} {bs : List Int} (h : Old B w v bs) (hb : Below B w w') : Old B w' v bs := fun wx hx => h wx (hb.trans hx)
theorem Old.drew {B : Nat} {w : World} {v : Value} {bs : List Int} (h : Old B w v bs) : Old B w.drew v bs := h.on ⟨rfl, rfl, rfl, Nat.le_refl _, fun _ _ => rfl⟩
section
variable {w : World}
theorem fail32 {q : Nat} {v : Value} {st : St} (hT : Tk w q v st) (e : Int) : Calls Try.prog 32 #[.pointer (some ⟨q, 0, none⟩), .int .i64 e] w fun r w' => r = .returned (.tuple #[]) ∧ Tk w' q v (flS st e) ∧ Chg [q] w w' := by
  have c2 := hT.c2
  have z2 := hT.fz 2
  obtain ⟨i, f⟩ := st
  simp only at c2
  have HT := Hid.mk hT
  clear hT
  by_cases hf : f = 0
  · subst hf
    go_enter Try.func32, Try.ntmps32
    go_wp2
    go_end0
    exact ⟨rfl, HT.out.fail e, (Chg.refl [q] w).setCell (.inl (by simp)) _⟩
  · have hf' : (f == 0) = false := by simpa using hf
    have HF : Hid (flS (i, f) e = (i, f)) := ⟨by unfold flS; rw [if_neg hf]⟩
    go_enter Try.func32, Try.ntmps32
    go_wp2
    go_end0
    exact ⟨rfl, by rw [HF.out]; exact HT.out, Chg.refl _ _⟩
theorem step_ok {q : Nat} {v : Value} {st : St} (hT : Tk w q v st) (n : Int) : Calls Try.prog 55 #[.pointer (some ⟨q, 0, none⟩), .int .i64 n, .int .i64 0] w fun r w' => r = .returned (.tuple #[]) ∧ Tk w' q v (n, st.2) ∧ Chg [q] w w' := by
  have z1 := hT.fz 1
  have c1 := hT.c1
  have HT := Hid.mk hT
  clear hT
  go_enter Try.func55, Try.ntmps55
  go_wp2
  go_end0
  exact ⟨rfl, HT.out.at' n, (Chg.refl [q] w).setCell (.inl (by simp)) _⟩
theorem step_no {q : Nat} {v : Value} {st : St} (hT : Tk w q v st) (n e : Int) (he : e ≠ 0) : Calls Try.prog 55 #[.pointer (some ⟨q, 0, none⟩), .int .i64 n, .int .i64 e] w fun r w' => r = .returned (.tuple #[]) ∧ Tk w' q v (flS st e) ∧ Chg [q] w w' := by
  have he' : (e != 0) = true := by simpa using he
  have t := fail32 hT e
  clear hT
  go_enter Try.func55, Try.ntmps55
  go_wp2_with (go_at_call 32; refine t.mono ?_; rintro r w2 ⟨rfl, hT2, hC2⟩; clear t)
  go_wp2_with fail
  refine bodyPost_ret (results_none rfl _ _ _) rfl ?_
  exact ⟨rfl, hT2, hC2⟩
theorem step55 {q : Nat} {v : Value} {i : Int} (hT : Tk w q v (i, 0)) (n e : Int) : Calls Try.prog 55 #[.pointer (some ⟨q, 0, none⟩), .int .i64 n, .int .i64 e] w fun r w' => r = .returned (.tuple #[]) ∧ Tk w' q v (if e = 0 then (n, 0) else (i, e)) ∧ Chg [q] w w' := by
  by_cases he : e = 0
  · subst he
    rw [if_pos rfl]
    exact step_ok hT n
  · rw [if_neg he]
    refine (step_no hT n e he).mono ?_
    rintro r w' ⟨h1, h2, h3⟩
    unfold flS at h2
    rw [if_pos rfl] at h2
    exact ⟨h1, h2, h3⟩
set_option maxHeartbeats 2000000 in
set_option maxRecDepth 100000 in
theorem num_go {B q : Nat} {v : Value} {bs : List Int} {i : Int} (hT : Tk w q v (i, 0)) (hO : Old B w v bs) (hby : ∀ x ∈ bs, 0 ≤ x ∧ x < 256) : Calls Try.prog 45 #[.pointer (some ⟨q, 0, none⟩)] w fun r w' => r = .returned (.int .i64 (nS bs (i, 0)).1) ∧ Tk w' q v (nS bs (i, 0)).2 ∧ Chg [q] w w' := by
  have HV : Hid (nS bs (i, 0) = ((Oct.tkNum bs i).1, if (Oct.tkNum bs i).2.2 = 0 then ((Oct.tkNum bs i).2.1, 0) else (i, (Oct.tkNum bs i).2.2))) := ⟨by unfold nS; rw [if_pos rfl]⟩
  have t1 := Oct.takeNum_any v bs i w.drew hO.drew.at hby
  obtain ⟨n, j, c, hE⟩ : ∃ n j c, Oct.tkNum bs i = (n, j, c) := ⟨_, _, _, rfl⟩
  rw [hE] at t1 HV
  simp only at t1 HV
  have hb := hO.at
  obtain ⟨av, cv, rfl, _⟩ := hb
  obtain ⟨nb, Hnb⟩ : ∃ n, Hid (bs.length = n) := ⟨_, ⟨rfl⟩⟩
  have HT := Hid.mk hT
  rw [Hnb.out] at HT t1
  have c2 := HT.out.c2
  simp only at c2
  have hS0 : (fun w' => w'.cell? ⟨q, 0, none⟩ = some (.slice av nb cv) ∧ w'.cell? ⟨q, 1, none⟩ = some (.int .i64 i)) w.drew := ⟨HT.out.c0, HT.out.c1⟩
  have HT2 : Hid (Tk w.drew q (.slice av nb cv) (i, 0)) := ⟨HT.out.far (Chg.refl [] w).drew (by simp)⟩
  rw [Hnb.out, HV.out]
  obtain ⟨s6, Hs6⟩ : ∃ s6, Hid ((if c = 0 then (j, 0) else (i, c)) = s6) := ⟨_, ⟨rfl⟩⟩
  have t55 : ∀ W : World, Tk W q (.slice av nb cv) (i, 0) → Calls Try.prog 55 #[.pointer (some ⟨q, 0, none⟩), .int .i64 j, .int .i64 c] W fun r w' => r = .returned (.tuple #[]) ∧ Tk w' q (.slice av nb cv) s6 ∧ Chg [q] W w' := fun W h => by rw [← Hs6.out]; exact step55 h j c
  rw [Hs6.out]
  clear hT hO hE
  go_enter Try.func45, Try.ntmps45
  go_upto_region 3 with fail
  refine wp_region_held_drew (S := (fun w' => w'.cell? ⟨q, 0, none⟩ = some (.slice av nb cv) ∧ w'.cell? ⟨q, 1, none⟩ = some (.int .i64 i))) (by kernel_rfl) hS0 (fun hS => ?_)
  refine wpAnyH_take (i := 0) (v := .pointer (some ⟨q, 0, none⟩)) rfl (by kernel_rfl) (by kernel_rfl) (by kernel_rfl) (fun _ _ _ h => h) (Or.inl ⟨by kernel_rfl, fun _ _ => by kernel_rfl⟩) hS ?_
  refine wpAnyH_take (i := 1) (v := .pointer (some ⟨q, 0, none⟩)) rfl (by kernel_rfl) (by kernel_rfl) (by kernel_rfl) (fun _ _ _ h => h) (Or.inl ⟨by kernel_rfl, fun wx hx => by go_simp⟩) hS ?_
  refine wpAnyH_take (i := 2) (v := .pointer (some ⟨q, 0, none⟩)) rfl (by kernel_rfl) (by kernel_rfl) (by kernel_rfl) (fun _ _ _ h => h) (Or.inl ⟨by kernel_rfl, fun wx hx => by go_simp⟩) hS ?_
  refine wpAnyH_take (i := 3) (v := .slice av nb cv) rfl (by kernel_rfl) (by kernel_rfl) (by kernel_rfl) (fun _ _ _ h => h) (Or.inl ⟨by kernel_rfl, fun wx hx => by obtain ⟨hx1, hx2⟩ := hx; go_simp⟩) hS ?_
  refine wpAnyH_take (i := 4) (v := .pointer (some ⟨q, 0, none⟩)) rfl (by kernel_rfl) (by kernel_rfl) (by kernel_rfl) (fun _ _ _ h => h) (Or.inl ⟨by kernel_rfl, fun _ _ => by kernel_rfl⟩) hS ?_
  refine wpAnyH_take (i := 5) (v := .pointer (some ⟨q, 0, none⟩)) rfl (by kernel_rfl) (by kernel_rfl) (by kernel_rfl) (fun _ _ _ h => h) (Or.inl ⟨by kernel_rfl, fun wx hx => by go_simp⟩) hS ?_
  refine wpAnyH_take (i := 6) (v := .pointer (some ⟨q, 1, none⟩)) rfl (by kernel_rfl) (by kernel_rfl) (by kernel_rfl) (fun _ _ _ h => h) (Or.inl ⟨by kernel_rfl, fun wx hx => by go_simp⟩) hS ?_
  refine wpAnyH_take (i := 7) (v := .int .i64 i) rfl (by kernel_rfl) (by kernel_rfl) (by kernel_rfl) (fun _ _ _ h => h) (Or.inl ⟨by kernel_rfl, fun wx hx => by obtain ⟨hx1, hx2⟩ := hx; go_simp⟩) hS ?_
  refine wpAnyH_ready (rs := [8]) (by kernel_rfl) (by simp) (AllReadyH.cons rfl (fun Kc hK => ?_) AllReadyH.nil)
  go_simp
  refine t1.mono ?_
  rintro e w5 ⟨rfl, e5⟩
  subst e5
  refine hK.out _ _ hS0 (fun hS => ?_)
  clear hK
  refine wpAnyH_take (i := 9) (v := .tuple #[.int .i64 n, .int .i64 j, .int .i64 c]) rfl (by kernel_rfl) (by kernel_rfl) (by kernel_rfl) (fun _ _ _ h => h) (Or.inl ⟨by kernel_rfl, fun _ _ => by kernel_rfl⟩) hS ?_
  refine wpAnyH_take (i := 10) (v := .int .i64 n) rfl (by kernel_rfl) (by kernel_rfl) (by kernel_rfl) (fun _ _ _ h => h) (Or.inl ⟨by kernel_rfl, fun wx hx => by go_simp⟩) hS ?_
  refine wpAnyH_take (i := 11) (v := .int .i64 j) rfl (by kernel_rfl) (by kernel_rfl) (by kernel_rfl) (fun _ _ _ h => h) (Or.inl ⟨by kernel_rfl, fun wx hx => by go_simp⟩) hS ?_
  refine wpAnyH_take (i := 12) (v := .int .i64 c) rfl (by kernel_rfl) (by kernel_rfl) (by kernel_rfl) (fun _ _ _ h => h) (Or.inl ⟨by kernel_rfl, fun wx hx => by go_simp⟩) hS ?_
  refine wpAnyH_take (i := 13) (v := .int .i64 n) rfl (by kernel_rfl) (by kernel_rfl) (by kernel_rfl) (fun _ _ _ h => h) (Or.inl ⟨by kernel_rfl, fun _ _ => by kernel_rfl⟩) hS ?_
  refine wpAnyH_take (i := 14) (v := .int .i64 j) rfl (by kernel_rfl) (by kernel_rfl) (by kernel_rfl) (fun _ _ _ h => h) (Or.inl ⟨by kernel_rfl, fun _ _ => by kernel_rfl⟩) hS ?_
  refine wpAnyH_take (i := 15) (v := .int .i64 c) rfl (by kernel_rfl) (by kernel_rfl) (by kernel_rfl) (fun _ _ _ h => h) (Or.inl ⟨by kernel_rfl, fun _ _ => by kernel_rfl⟩) hS ?_
  refine wpAnyH_done (by kernel_rfl) ?_ _
  clear hS hS0
  go_simp
  go_wp2_with (go_at_call 55; refine (t55 _ HT2.out).mono ?_; rintro e w6 ⟨rfl, hT6, hC6⟩)
  go_ret
  exact ⟨rfl, hT6, (Chg.refl [q] w).drew.trans hC6⟩
theorem num45 {B q : Nat} {v : Value} {bs : List Int} {st : St} (hT : Tk w q v st) (hO : Old B w v bs) (hby : ∀ x ∈ bs, 0 ≤ x ∧ x < 256) : Calls Try.prog 45 #[.pointer (some ⟨q, 0, none⟩)] w fun r w' => r = .returned (.int .i64 (nS bs st).1) ∧ Tk w' q v (nS bs st).2 ∧ Chg [q] w w' := by
  obtain ⟨i, f⟩ := st
  by_cases hf : f = 0
  · subst hf
    exact num_go hT hO hby
  · have HV : nS bs (i, f) = (0, (i, f)) := by unfold nS; rw [if_neg hf]
    rw [HV]
    have c2 := hT.c2
    simp only at c2
    have hf' : (f != 0) = true := by simpa using hf
    have HT := Hid.mk hT
    clear hT hO HV
    go_enter Try.func45, Try.ntmps45
    go_wp2
    go_ret
    exact ⟨rfl, HT.out, Chg.refl _ _⟩
set_option maxHeartbeats 2000000 in
set_option maxRecDepth 100000 in
theorem text_go {B q : Nat} {v : Value} {bs : List Int} {i : Int} (m : Int) (hT : Tk w q v (i, 0)) (hO : Old B w v bs) (hby : ∀ x ∈ bs, 0 ≤ x ∧ x < 256) (hl : bs.length ≤ 140737488355328) : Calls Try.prog 52 #[.pointer (some ⟨q, 0, none⟩), .int .i64 m] w fun r w' => ∃ a k, r = .returned (.slice a (xS bs m (i, 0)).1.length k) ∧ OwnY w' w.heap.size (.slice a (xS bs m (i, 0)).1.length k) (xS bs m (i, 0)).1 ∧ Tk w' q v (xS bs m (i, 0)).2 ∧ Chg [q] w w' := by
  have HV : Hid (xS bs m (i, 0) = ((Oct.tkText bs i m).1, if (Oct.tkText bs i m).2.2 = 0 then ((Oct.tkText bs i m).2.1, 0) else (i, (Oct.tkText bs i m).2.2))) := ⟨by unfold xS; rw [if_pos rfl]⟩
  have t1 := Oct.takeText_any v bs i m w.drew hO.drew.at hby hl
  obtain ⟨ps, j, c, hE⟩ : ∃ n j c, Oct.tkText bs i m = (n, j, c) := ⟨_, _, _, rfl⟩
  rw [hE] at t1 HV
  simp only at t1 HV
  have hb := hO.at
  obtain ⟨av, cv, rfl, _⟩ := hb
  obtain ⟨nb, Hnb⟩ : ∃ n, Hid (bs.length = n) := ⟨_, ⟨rfl⟩⟩
  have HT := Hid.mk hT
  rw [Hnb.out] at HT t1
  have c2 := HT.out.c2
  simp only at c2
  have hS0 : (fun w' => w'.cell? ⟨q, 0, none⟩ = some (.slice av nb cv) ∧ w'.cell? ⟨q, 1, none⟩ = some (.int .i64 i)) w.drew := ⟨HT.out.c0, HT.out.c1⟩
  have HT2 : Hid (Tk w.drew q (.slice av nb cv) (i, 0)) := ⟨HT.out.far (Chg.refl [] w).drew (by simp)⟩
  rw [Hnb.out, HV.out]
  obtain ⟨s6, Hs6⟩ : ∃ s6, Hid ((if c = 0 then (j, 0) else (i, c)) = s6) := ⟨_, ⟨rfl⟩⟩
  have t55 : ∀ W : World, Tk W q (.slice av nb cv) (i, 0) → Calls Try.prog 55 #[.pointer (some ⟨q, 0, none⟩), .int .i64 j, .int .i64 c] W fun r w' => r = .returned (.tuple #[]) ∧ Tk w' q (.slice av nb cv) s6 ∧ Chg [q] W w' := fun W h => by rw [← Hs6.out]; exact step55 h j c
  rw [Hs6.out]
  clear hT hO hE
  go_enter Try.func52, Try.ntmps52
  go_upto_region 3 with fail
  refine wp_region_held_drew (S := (fun w' => w'.cell? ⟨q, 0, none⟩ = some (.slice av nb cv) ∧ w'.cell? ⟨q, 1, none⟩ = some (.int .i64 i))) (by kernel_rfl) hS0 (fun hS => ?_)
  refine wpAnyH_take (i := 0) (v := .pointer (some ⟨q, 0, none⟩)) rfl (by kernel_rfl) (by kernel_rfl) (by kernel_rfl) (fun _ _ _ h => h) (Or.inl ⟨by kernel_rfl, fun _ _ => by kernel_rfl⟩) hS ?_
  refine wpAnyH_take (i := 1) (v := .pointer (some ⟨q, 0, none⟩)) rfl (by kernel_rfl) (by kernel_rfl) (by kernel_rfl) (fun _ _ _ h => h) (Or.inl ⟨by kernel_rfl, fun wx hx => by go_simp⟩) hS ?_
  refine wpAnyH_take (i := 2) (v := .pointer (some ⟨q, 0, none⟩)) rfl (by kernel_rfl) (by kernel_rfl) (by kernel_rfl) (fun _ _ _ h => h) (Or.inl ⟨by kernel_rfl, fun wx hx => by go_simp⟩) hS ?_
  refine wpAnyH_take (i := 3) (v := .slice av nb cv) rfl (by kernel_rfl) (by kernel_rfl) (by kernel_rfl) (fun _ _ _ h => h) (Or.inl ⟨by kernel_rfl, fun wx hx => by obtain ⟨hx1, hx2⟩ := hx; go_simp⟩) hS ?_
  refine wpAnyH_take (i := 4) (v := .pointer (some ⟨q, 0, none⟩)) rfl (by kernel_rfl) (by kernel_rfl) (by kernel_rfl) (fun _ _ _ h => h) (Or.inl ⟨by kernel_rfl, fun _ _ => by kernel_rfl⟩) hS ?_
  refine wpAnyH_take (i := 5) (v := .pointer (some ⟨q, 0, none⟩)) rfl (by kernel_rfl) (by kernel_rfl) (by kernel_rfl) (fun _ _ _ h => h) (Or.inl ⟨by kernel_rfl, fun wx hx => by go_simp⟩) hS ?_
  refine wpAnyH_take (i := 6) (v := .pointer (some ⟨q, 1, none⟩)) rfl (by kernel_rfl) (by kernel_rfl) (by kernel_rfl) (fun _ _ _ h => h) (Or.inl ⟨by kernel_rfl, fun wx hx => by go_simp⟩) hS ?_
  refine wpAnyH_take (i := 7) (v := .int .i64 i) rfl (by kernel_rfl) (by kernel_rfl) (by kernel_rfl) (fun _ _ _ h => h) (Or.inl ⟨by kernel_rfl, fun wx hx => by obtain ⟨hx1, hx2⟩ := hx; go_simp⟩) hS ?_
  refine wpAnyH_take (i := 8) (v := .int .i64 m) rfl (by kernel_rfl) (by kernel_rfl) (by kernel_rfl) (fun _ _ _ h => h) (Or.inl ⟨by kernel_rfl, fun _ _ => by kernel_rfl⟩) hS ?_
  refine wpAnyH_ready (rs := [9]) (by kernel_rfl) (by simp) (AllReadyH.cons rfl (fun Kc hK => ?_) AllReadyH.nil)
  go_simp
  refine t1.mono ?_
  rintro e w5 ⟨v5, rfl, hO5, hB5⟩
  have hB5' : Below w.heap.size w w5 := ⟨hB5.os, hB5.tape, hB5.output, hB5.size, hB5.block⟩
  have HO5 : Hid (OwnY w5 w.heap.size v5 ps) := ⟨hO5⟩
  obtain ⟨a5, k5, e5, _⟩ := OwnY.shape HO5.out
  subst e5
  have HB5 := Hid.mk hB5'
  have HT5 : Hid (Tk w5 q (.slice av nb cv) (i, 0)) := ⟨HT.out.far (Chg.ofBelow (X := []) hB5') (by simp)⟩
  clear hO5 hB5 hB5'
  refine hK.out _ _ ⟨HT5.out.c0, HT5.out.c1⟩ (fun hS => ?_)
  clear hK
  refine wpAnyH_take (i := 10) (v := .tuple #[.slice a5 ps.length k5, .int .i64 j, .int .i64 c]) rfl (by kernel_rfl) (by kernel_rfl) (by kernel_rfl) (fun _ _ _ h => h) (Or.inl ⟨by kernel_rfl, fun _ _ => by kernel_rfl⟩) hS ?_
  refine wpAnyH_take (i := 11) (v := .slice a5 ps.length k5) rfl (by kernel_rfl) (by kernel_rfl) (by kernel_rfl) (fun _ _ _ h => h) (Or.inl ⟨by kernel_rfl, fun wx hx => by go_simp⟩) hS ?_
  refine wpAnyH_take (i := 12) (v := .int .i64 j) rfl (by kernel_rfl) (by kernel_rfl) (by kernel_rfl) (fun _ _ _ h => h) (Or.inl ⟨by kernel_rfl, fun wx hx => by go_simp⟩) hS ?_
  refine wpAnyH_take (i := 13) (v := .int .i64 c) rfl (by kernel_rfl) (by kernel_rfl) (by kernel_rfl) (fun _ _ _ h => h) (Or.inl ⟨by kernel_rfl, fun wx hx => by go_simp⟩) hS ?_
  refine wpAnyH_take (i := 14) (v := .slice a5 ps.length k5) rfl (by kernel_rfl) (by kernel_rfl) (by kernel_rfl) (fun _ _ _ h => h) (Or.inl ⟨by kernel_rfl, fun _ _ => by kernel_rfl⟩) hS ?_
  refine wpAnyH_take (i := 15) (v := .int .i64 j) rfl (by kernel_rfl) (by kernel_rfl) (by kernel_rfl) (fun _ _ _ h => h) (Or.inl ⟨by kernel_rfl, fun _ _ => by kernel_rfl⟩) hS ?_
  refine wpAnyH_take (i := 16) (v := .int .i64 c) rfl (by kernel_rfl) (by kernel_rfl) (by kernel_rfl) (fun _ _ _ h => h) (Or.inl ⟨by kernel_rfl, fun _ _ => by kernel_rfl⟩) hS ?_
  refine wpAnyH_done (by kernel_rfl) ?_ _
  clear hS hS0
  go_simp
  go_wp2_with (go_at_call 55; refine (t55 _ HT5.out).mono ?_; rintro e w6 ⟨rfl, hT6, hC6⟩)
  go_ret
  refine ⟨_, _, rfl, own_far HO5.out hC6 (fun g hg hm => ?_), hT6, (Chg.ofBelow (X := [q]) HB5.out).trans hC6⟩
  have h1 := own_geY HO5.out g (mem_ob.2 hg)
  have h2 := HT.out.lt
  simp at hm
  omega
theorem text52 {B q : Nat} {v : Value} {bs : List Int} {st : St} (m : Int) (hT : Tk w q v st) (hO : Old B w v bs) (hby : ∀ x ∈ bs, 0 ≤ x ∧ x < 256) (hl : bs.length ≤ 140737488355328) : Calls Try.prog 52 #[.pointer (some ⟨q, 0, none⟩), .int .i64 m] w fun r w' => ∃ a k, r = .returned (.slice a (xS bs m st).1.length k) ∧ OwnY w' w.heap.size (.slice a (xS bs m st).1.length k) (xS bs m st).1 ∧ Tk w' q v (xS bs m st).2 ∧ Chg [q] w w' := by
  obtain ⟨i, f⟩ := st
  by_cases hf : f = 0
  · subst hf
    exact text_go m hT hO hby hl
  · have HV : xS bs m (i, f) = ([], (i, f)) := by unfold xS; rw [if_neg hf]
    rw [HV]
    have c2 := hT.c2
    simp only at c2
    have hf' : (f != 0) = true := by simpa using hf
    have HT := Hid.mk hT
    clear hT hO HV
    go_enter Try.func52, Try.ntmps52
    go_wp2
    go_ret
    exact ⟨none, 0, rfl, owny_nil _ _, HT.out, Chg.refl _ _⟩
set_option maxHeartbeats 2000000 in
theorem name46 {B q : Nat} {v : Value} {bs : List Int} {st : St} (hT : Tk w q v st) (hO : Old B w v bs) (hby : ∀ x ∈ bs, 0 ≤ x ∧ x < 256) (hl : bs.length ≤ 140737488355328) : Calls Try.prog 46 #[.pointer (some ⟨q, 0, none⟩)] w fun r w' => r = .returned (.string (strOfNums (xS bs 32 st).1)) ∧ Tk w' q v (xS bs 32 st).2 ∧ Chg [q] w w' := by
  have t := text52 32 hT hO hby hl
  obtain ⟨⟨ps, st2⟩, hE⟩ : ∃ r, xS bs 32 st = r := ⟨_, rfl⟩
  rw [hE] at t ⊢
  simp only at t ⊢
  clear hT hO hE
  go_enter Try.func46, Try.ntmps46
  go_wp2_with (go_at_call 52; refine t.mono ?_; rintro e w2 ⟨a2, k2, rfl, hO2, hT2, hC2⟩; have hcv := bs_str (Oct.OwnB.bs hO2))
  go_ret
  exact ⟨rfl, hT2, hC2⟩
end
end Go.Proofs.Ythohpbppfihoiaa
