/- The pieces of Put, told one behind the other. -/
import Derived.Test.YtoneepoaodoijaaG5
namespace Go.Proofs.Ytoneepoaodoijaa
open Go.RowKit Go.Lib Go.Shelf Oct

/-- What stands while pieces are told: the hearer, the end of what was told, the bytes. -/
structure StP (l b0 q : Nat) (v : Value) (p : List Int) (d : Nat) (A : World) : Prop where
  y : A.heap[b0]? = some (.cells #[.func (.yield l) #[] #[]] 50 (0, 0))
  d : A.heap[b0 + 1]? = some (.cells #[.int .i64 (d : Int)] 3 (0, 0))
  q : A.heap[q]? = some (.cells #[v] 22 (0, 0))
  r : RdY A v p
  s : b0 + 3 ≤ A.heap.size
theorem StP.keep {l b0 q : Nat} {v : Value} {p : List Int} {d : Nat} {A B : World} (h : StP l b0 q v p d A) {N : Nat} (hvN : 0 < p.length → ∀ k ∈ ob v, k < N) (hs : A.heap.size ≤ B.heap.size) (hk : ∀ k o, A.heap[k]? = some o → (k = b0 ∨ k = b0 + 1 ∨ k = q ∨ k < N ∧ k ∈ ob v) → B.heap[k]? = some o) : StP l b0 q v p d B :=
  ⟨hk _ _ h.y (.inl rfl), hk _ _ h.d (.inr (.inl rfl)), hk _ _ h.q (.inr (.inr (.inl rfl))), h.r.stay (fun h0 k hm o ho => hk k o ho (.inr (.inr (.inr ⟨hvN h0 k hm, hm⟩)))), Nat.le_trans h.s hs⟩
theorem mem3 {w w3 : World} {o0 o1 o2 : Obj} (h : ((w.alloc o0).alloc o1).alloc o2 = w3) :
    w3.heap[w.heap.size]? = some o0 ∧ w3.heap[w.heap.size + 1]? = some o1 ∧ w3.heap[w.heap.size + 2]? = some o2 ∧ w3.heap.size = w.heap.size + 3 ∧ Below w.heap.size w w3 := by
  subst h
  refine ⟨stay_alloc _ (stay_alloc _ (new_alloc _ rfl)), stay_alloc _ (new_alloc _ (by simp)), new_alloc _ (by simp), by simp, ((((Below.refl _ w).alloc (Nat.le_refl _) _).alloc (by simp) _).alloc (by simp; omega) _)⟩
theorem rdY_from {w : World} {x : Addr} {n c : Nat} {l : List Int} (h : RdY w (.slice (some x) n c) l) {d : Nat} (hd : d ≤ n) : RdY w (.slice (some (x.add d)) (n - d) (c - d)) (l.drop d) := by
  obtain ⟨_, _, e, hc, hm, _⟩ := h.shape
  simp only [Value.slice.injEq] at e
  obtain ⟨rfl, rfl, rfl⟩ := e
  by_cases h0 : d < l.length
  · obtain ⟨g, o, c', e, _⟩ := h.at h0
    simp only [Value.slice.injEq, Option.some.injEq] at e
    obtain ⟨rfl, -, rfl⟩ := e
    have := rdY_sub h (k := d) (m := l.length - d) (by omega) (c - d) ⟨by omega, by omega⟩
    rw [List.take_of_length_le (by rw [List.length_drop]; exact Nat.le_refl _)] at this
    rw [add_add]
    exact this
  · have hl : l.drop d = [] := List.drop_eq_nil_of_le (by omega)
    rw [hl, show l.length - d = 0 by omega]
    exact ⟨_, _, by rw [yv_len]; rfl, by rw [yv_len]; exact Nat.zero_le _, by omega, by simp, fun y _ i hi => by rw [yv_len] at hi; exact absurd hi (Nat.not_lt_zero _)⟩
section
attribute [local go_sem] Oper.semAt_some
set_option maxHeartbeats 8000000 in
set_option maxRecDepth 100000 in
theorem pieces23_v (v : Value) (p : List Int) (l q m N : Nat) (X : List Nat) (J : List Yp → World → Prop) (W : World) (hp : p.length ≤ 8192)
    (hv : RdY W v p) (hvN : 0 < p.length → ∀ k ∈ ob v, k < N ∧ k ∉ X) (hq : W.heap[q]? = some (.cells #[v] 22 (0, 0))) (hqX : q ∉ X) (hNW : N ≤ W.heap.size) (hmW : m ≤ W.heap.size) (hXW : ∀ k ∈ X, k < W.heap.size)
    (hJb : ∀ pre A C, J pre A → Kc W.heap.size A C → J pre C)
    (hY : ∀ pre x A, J pre A → IsP A p pre.length x → YieldAt Fence.wide 8 Try.prog l (encp x) A fun e C => e = .returned (.bool true) ∧ J (pre ++ [x]) C ∧ Kz m N X A C)
    (hj0 : J [] W) :
    CallsIn Fence.wide 9 Try.prog 23 #[.func (.yield l) #[] #[], .pointer (some ⟨q, 0, none⟩)] W fun e C => (∃ v, e = .returned v) ∧ ∃ xs, xs.length = (pl0 p).length ∧ J xs C := by
  have HV := Hid.mk hv
  have HVN := Hid.mk hvN
  have HXW := Hid.mk hXW
  have HY := Hid.mk hY
  have HJb := Hid.mk hJb
  have HQ := Hid.mk hq
  have HJ0 := Hid.mk hj0
  obtain ⟨va, vc, ev, hvc, hvm, _⟩ := hv.shape
  subst ev
  obtain ⟨n, Hn⟩ : ∃ n, Hid (p.length = n) := ⟨_, ⟨rfl⟩⟩
  obtain ⟨b0, Hb⟩ : ∃ b, Hid (W.heap.size = b) := ⟨_, ⟨rfl⟩⟩
  have HB2 : Hid (Below W.heap.size W ((W.alloc (.cells #[.func (.yield l) #[] #[]] 50)).alloc (.cells #[.int .i64 0] 3))) := ⟨((Below.refl _ W).alloc (Nat.le_refl _) _).alloc (by simp) _⟩
  have c0 : ((W.alloc (.cells #[.func (.yield l) #[] #[]] 50)).alloc (.cells #[.int .i64 0] 3)).cell? ⟨q, 0, none⟩ = some (.slice va p.length vc) := by rw [cell_of_row _ _ _ _ _ _ ((HB2.out.block q (Array.getElem?_eq_some_iff.1 hq).1).trans hq)]; rfl
  have HTU : Hid (∀ (v : Value) (b : List Int) (xs : List Yp) (A0 : World), b0 ≤ A0.heap.size → J xs A0 → b.length ≤ 8192 → RdY A0 v b → (0 < b.length → ∀ k ∈ ob v, k < N ∧ k ∉ X) → (∀ i, i < cnk b.length → (pl0 p)[xs.length + i]? = some ⟨chk b i, 0, 0⟩) →
      CallsIn Fence.wide 10 Try.prog 25 #[v, .func (.yield l) #[] #[]] A0 fun e C => e = .returned (.bool true) ∧ ∃ ys, ys.length = xs.length + cnk b.length ∧ J ys C ∧ Kz m N X A0 C) := ⟨tell_use p l m b0 N X J (by rw [← Hb.out]; exact hXW) (by rw [← Hb.out]; exact hmW) (by rw [← Hb.out]; exact hJb) hY⟩
  clear hv hY hq hJb hvN hXW hj0
  rw [Hn.out] at c0 HQ HV HVN hp hvc
  rw [Hb.out] at HJb HXW hNW hmW
  have t24 := fun w' => matches24 (w := w') (.slice va n vc) ⟨_, _, _, rfl⟩
  refine callsIn_of_wp_marks Try.func23 rfl trivial ?_ rfl
  simp only [Try.ntmps23, List.size_toArray, List.length_cons, List.length_nil, Nat.reduceAdd, Nat.reduceSub, Array.replicate_succ, Array.replicate_zero, List.push_toArray, List.append_toArray, List.nil_append, List.cons_append]
  gi_wp2_with fail
  refine ⟨trivial, ?_⟩
  refine (callsIn_wide.2 (t24 _)).mono ?_
  rintro e w3 ⟨rfl, hw3⟩
  have HM := Hid.mk (mem3 hw3.symm)
  have hsz : ((W.alloc (.cells #[.func (.yield l) #[] #[]] 50)).alloc (.cells #[.int .i64 0] 3)).heap.size = b0 + 2 := by rw [← Hb.out]; simp
  rw [hsz, Hb.out]
  rw [Hb.out] at HM
  clear hw3 hsz t24 c0
  have HS3 : Hid (w3.heap.size = b0 + 3) := ⟨HM.out.2.2.2.1⟩
  have HQb : Hid (q < b0) := ⟨by rw [← Hb.out]; exact (Array.getElem?_eq_some_iff.1 HQ.out).1⟩
  have HV1 : Hid (0 < p.length → ∀ k ∈ ob (.slice va n vc), k < N) := ⟨fun h k hk => (HVN.out (by rw [← Hn.out]; exact h) k hk).1⟩
  have HP3 : Hid (StP l b0 q (.slice va n vc) p 0 w3) := ⟨by
    have hbl := HM.out.2.2.2.2
    have hb := Hb.out
    exact ⟨HM.out.1, HM.out.2.1, (hbl.block q (by exact HQb.out)).trans HQ.out, HV.out.stay (fun _ k _ o ho => (hbl.block k (by rw [← hb]; exact (Array.getElem?_eq_some_iff.1 ho).1)).trans ho), by rw [HS3.out]; exact Nat.le_refl _⟩⟩
  have HJ3 : Hid (J [] w3) := ⟨HJb.out _ _ _ HJ0.out (Kg.below (by rw [Hb.out]; exact HM.out.2.2.2.2))⟩
  gi_wp2
  have HSQ : Hid (SeqK Fence.wide 8 Try.prog 31 #[.pointer (some ⟨b0 + 2, 0, none⟩)] encm (Kz (b0 + 5) N ((b0 + 1) :: X)) (fun xs => xs = mtl p 0) (fun pre x _ => (mtl p 0)[pre.length]? = some x) w3) := ⟨fun l' J' V hV hV2 hJb' hY' hj0' => by
    have hs3 := HS3.out
    have hq2 := (hV.block (b0 + 2) (by omega)).trans HM.out.2.2.1
    exact callsIn_wide.2 (callsIn_wide.1 (matches31_v (.slice va n vc) p l' (b0 + 2) (b0 + 5) N ((b0 + 1) :: X) J' V (by rw [Hn.out]; exact hp) (HP3.out.r.stay (fun _ k _ o ho => (hV.block k (Array.getElem?_eq_some_iff.1 ho).1).trans ho))
      (fun h0 k hk => by
        have h1 := HVN.out (by rw [← Hn.out]; exact h0) k hk
        refine ⟨h1.1, fun hm => ?_⟩
        rcases List.mem_cons.1 hm with hm | hm
        · omega
        · exact h1.2 hm) hq2 (fun hm => by
        rcases List.mem_cons.1 hm with hm | hm
        · omega
        · have := HXW.out _ hm; omega) (by omega) (fun k hk => by
        rcases List.mem_cons.1 hk with hk | hk
        · omega
        · have := HXW.out _ hk; omega) hJb' (fun pre x A hJ hE => YieldAt.lev (hY' pre x A hJ hE)) hj0'))⟩
  refine range_k rfl (by decide) (gf := 31) (lb := #[.pointer (some ⟨b0 + 2, 0, none⟩)]) rfl trivial (enters_of Try.func31 (by kernel_rfl) rfl) HSQ.out (fun _ => rfl) (fun h k => Kg.trans h k) (fun A o hx => by
      obtain ⟨r, hr⟩ := hx
      have hs3 := HS3.out
      exact Kz.put (by omega) (by omega) ⟨_, hr, rfl⟩)
    (fun pre A => pre = (mtl p 0).take pre.length ∧ (∃ xs, xs.length = (pcp p 0 pre).length ∧ J xs A) ∧ StP l b0 q (.slice va n vc) p (dn 0 pre) A)
    (fun pre x act A => ∃ z, act = { tmps := #[.func (.yield l) #[] #[], .pointer (some ⟨q, 0, none⟩), .pointer (some ⟨b0, 0, none⟩), .pointer (some ⟨b0 + 1, 0, none⟩), .pointer (some ⟨z, 0, none⟩), .slice va n vc, .func (.func 31) #[] #[.pointer (some ⟨b0 + 2, 0, none⟩)], mtv x.1 x.2.1 x.2.2, undef, undef, undef, undef, undef, undef, undef, undef, undef, undef, undef, undef, undef, undef, undef, undef, undef, undef, undef, undef, undef, undef, undef, undef, undef, undef, undef, undef], defers := [] } ∧ (pre = (mtl p 0).take pre.length ∧ (∃ xs, xs.length = (pcp p 0 pre).length ∧ J xs A) ∧ StP l b0 q (.slice va n vc) p (dn 0 pre) A) ∧ A.heap[z]? = some (.cells #[.int .i64 (x.1 : Int), .int .i64 (x.2.1 : Int), .int .i64 (x.2.2 : Int)] 55 (0, 0)) ∧ b0 + 3 ≤ z ∧ (mtl p 0)[pre.length]? = some x)
    ?hIb ?hMo ?h0 ?hassign ?hbody ?hdone
  case hIb =>
    rintro pre A B ⟨h1, ⟨xs, h2, h3⟩, h4⟩ hk
    have hs3 := HS3.out
    refine ⟨h1, ⟨xs, h2, HJb.out _ _ _ h3 (hk.less (by omega))⟩, h4.keep HV1.out hk.1 (fun k o ho hx => hk.old ho ?_)⟩
    have := HQb.out
    omega
  case hMo =>
    rintro pre x act A l' o ⟨z, h0, ⟨h1, ⟨xs, h2, h3⟩, h4⟩, h5, h6, h7⟩ hl hx
    have hs3 := HS3.out
    have hk : Kc (b0 + 3) A (A.putObj l' o) := Kc.putNon (by omega) hx
    refine ⟨z, h0, ⟨h1, ⟨xs, h2, HJb.out _ _ _ h3 (hk.less (by omega))⟩, h4.keep HV1.out hk.1 (fun k o ho hx => hk.old ho ?_)⟩, ?_, h6, h7⟩
    · have := HQb.out
      omega
    · refine (World.putObj_heap_other (fun e => ?_)).trans h5
      subst e
      obtain ⟨y, e1, e2⟩ := hx
      rw [h5] at e1
      cases e1
      cases e2
  case h0 => exact ⟨rfl, ⟨[], rfl, HJ3.out⟩, HP3.out⟩
  case hassign =>
    rintro l' pre ⟨a, f, n'⟩ A ⟨h1, ⟨xs, h2, h3⟩, h4⟩ hE
    have H1 := Hid.mk h1
    have H3 := Hid.mk h3
    have H2 := Hid.mk h2
    have H4 := Hid.mk h4
    have HE := Hid.mk hE
    simp only [encm, mtv]
    clear h1 h2 h3 h4 hE
    gi_wp2
    have hbl : Below A.heap.size A (A.alloc (.cells #[.int .i64 (a : Int), .int .i64 (f : Int), .int .i64 (n' : Int)] 55)) := (Below.refl _ A).alloc (Nat.le_refl _) _
    exact ⟨⟨hbl.size, fun k o _ hk _ => stay_alloc _ hk⟩, Kg.below hbl, A.heap.size, rfl, ⟨H1.out, ⟨xs, H2.out, HJb.out _ _ _ H3.out (Kg.below hbl)⟩, H4.out.keep HV1.out hbl.size (fun k o ho _ => stay_alloc _ ho)⟩, heap_alloc_new A _, H4.out.s, HE.out⟩
  case hbody =>
    rintro l' pre ⟨a, f, n'⟩ act A ⟨z, rfl, ⟨h1, ⟨xs, h2, h3⟩, h4⟩, h5, h6, h7⟩
    obtain ⟨r, hM⟩ := take_snoc h1 h7
    have hrow := mtl_row p
    rw [hM] at hrow
    have hrow2 := Row.rest hrow
    have hda : dn 0 pre ≤ a := hrow2.1
    have his := hrow2.2.1
    have hfit := his.fit
    have hn4 := his.n4
    have hn1 := his.n131
    have hf4 := his.f4
    have HMt := Hid.mk hM
    have HTn := Hid.mk (take_next h1 h7)
    have H2 := Hid.mk h2
    have HZ := Hid.mk h5
    have HP := Hid.mk h4
    have HLen : Hid ((pcp p 0 (pre ++ [(a, f, n')])).length = xs.length + cnk ((p.drop (dn 0 pre)).take (a - dn 0 pre)).length + 1) := ⟨by rw [pcp_snoc, List.length_append, List.length_append, chs_len', h2]; simp; omega⟩
    have HDn : Hid (dn 0 (pre ++ [(a, f, n')]) = a + n') := ⟨dn_snoc _ _ _ _ _⟩
    obtain ⟨d, Hd⟩ : ∃ d, Hid (dn 0 pre = d) := ⟨_, ⟨rfl⟩⟩
    rw [Hd.out] at hda HP HLen
    rw [Hn.out] at hfit
    obtain ⟨g, off, hva⟩ : ∃ g o, va = some ⟨g, o, none⟩ := by
      obtain ⟨g, o, c, e, _⟩ := HV.out.at (i := 0) (by rw [Hn.out]; omega)
      simp only [Value.slice.injEq] at e
      exact ⟨g, o, e.1⟩
    subst hva
    have hz1 : (d : Int) ≤ (a : Int) := by omega
    have hz2 : (a : Int) ≤ (vc : Int) := by omega
    have hz3 : (a : Int) ≤ (n : Int) := by omega
    have hvd : ¬ vc = d := by omega
    have hac : a ≤ vc := by omega
    have HJA := Hid.mk h3
    have HCl : Hid (∀ w' : World, (w'.heap[b0]? = some (.cells #[.func (.yield l) #[] #[]] 50 (0, 0)) ∧ w'.heap[b0 + 1]? = some (.cells #[.int .i64 (d : Int)] 3 (0, 0)) ∧ w'.heap[q]? = some (.cells #[.slice (some ⟨g, off, none⟩) n vc] 22 (0, 0)) ∧ w'.heap[z]? = some (.cells #[.int .i64 (a : Int), .int .i64 (f : Int), .int .i64 (n' : Int)] 55 (0, 0))) →
        w'.cell? ⟨b0, 0, none⟩ = some (.func (.yield l) #[] #[]) ∧ w'.cell? ⟨b0 + 1, 0, none⟩ = some (.int .i64 (d : Int)) ∧ w'.cell? ⟨q, 0, none⟩ = some (.slice (some ⟨g, off, none⟩) n vc) ∧ w'.cell? ⟨z, 0, none⟩ = some (.int .i64 (a : Int)) ∧ w'.cell? ⟨z, 1, none⟩ = some (.int .i64 (f : Int)) ∧ w'.cell? ⟨z, 2, none⟩ = some (.int .i64 (n' : Int))) := ⟨fun w' h => ⟨by rw [cell_of_row _ _ _ _ _ _ h.1]; rfl, by rw [cell_of_row _ _ _ _ _ _ h.2.1]; rfl, by rw [cell_of_row _ _ _ _ _ _ h.2.2.1]; rfl, by rw [cell_of_row _ _ _ _ _ _ h.2.2.2]; rfl, by rw [cell_of_row _ _ _ _ _ _ h.2.2.2]; rfl, by rw [cell_of_row _ _ _ _ _ _ h.2.2.2]; rfl⟩⟩
    have hS0 : A.drew.heap[b0]? = some (.cells #[.func (.yield l) #[] #[]] 50 (0, 0)) ∧ A.drew.heap[b0 + 1]? = some (.cells #[.int .i64 (d : Int)] 3 (0, 0)) ∧ A.drew.heap[q]? = some (.cells #[.slice (some ⟨g, off, none⟩) n vc] 22 (0, 0)) ∧ A.drew.heap[z]? = some (.cells #[.int .i64 (a : Int), .int .i64 (f : Int), .int .i64 (n' : Int)] 55 (0, 0)) := ⟨h4.y, by have := h4.d; rw [Hd.out] at this; exact this, h4.q, h5⟩
    have HKS : Hid (∀ B C : World, Kz m N X B C → (B.heap[b0]? = some (.cells #[.func (.yield l) #[] #[]] 50 (0, 0)) ∧ B.heap[b0 + 1]? = some (.cells #[.int .i64 (d : Int)] 3 (0, 0)) ∧ B.heap[q]? = some (.cells #[.slice (some ⟨g, off, none⟩) n vc] 22 (0, 0)) ∧ B.heap[z]? = some (.cells #[.int .i64 (a : Int), .int .i64 (f : Int), .int .i64 (n' : Int)] 55 (0, 0))) → (C.heap[b0]? = some (.cells #[.func (.yield l) #[] #[]] 50 (0, 0)) ∧ C.heap[b0 + 1]? = some (.cells #[.int .i64 (d : Int)] 3 (0, 0)) ∧ C.heap[q]? = some (.cells #[.slice (some ⟨g, off, none⟩) n vc] 22 (0, 0)) ∧ C.heap[z]? = some (.cells #[.int .i64 (a : Int), .int .i64 (f : Int), .int .i64 (n' : Int)] 55 (0, 0)))) := ⟨fun B C hk h => ⟨hk.2 _ _ h.1 (.inl ⟨fun hm => by have := HXW.out _ hm; omega, .inr rfl⟩), hk.2 _ _ h.2.1 (.inl ⟨fun hm => by have := HXW.out _ hm; omega, .inr rfl⟩), hk.2 _ _ h.2.2.1 (.inl ⟨hqX, .inr rfl⟩), hk.2 _ _ h.2.2.2 (.inl ⟨fun hm => by have := HXW.out _ hm; omega, .inr rfl⟩)⟩⟩
    have Hz3 := Hid.mk h6
    clear h1 h2 h3 h4 h5 h6 h7 hM hrow hrow2 his
    simp only [mtv]
    gi_wp2_with fail
    refine wpIn_only ?_
    refine HI.region (S := fun w' => w'.heap[b0]? = some (.cells #[.func (.yield l) #[] #[]] 50 (0, 0)) ∧ w'.heap[b0 + 1]? = some (.cells #[.int .i64 (d : Int)] 3 (0, 0)) ∧ w'.heap[q]? = some (.cells #[.slice (some ⟨g, off, none⟩) n vc] 22 (0, 0)) ∧ w'.heap[z]? = some (.cells #[.int .i64 (a : Int), .int .i64 (f : Int), .int .i64 (n' : Int)] 55 (0, 0))) (by kernel_rfl) hS0 (fun hS => ?_)
    clear hS0
    refine HI.take (i := 0) (v := .slice (some ⟨g, off, none⟩) n vc) rfl (by kernel_rfl) (by kernel_rfl) (by kernel_rfl) (by kernel_rfl) (fun _ _ _ h => h) (Or.inl ⟨by kernel_rfl, fun wx hx => by obtain ⟨k0, k1, k2, k3, k4, k5⟩ := HCl.out wx hx; go_simp⟩) hS ?_
    refine HI.take (i := 1) (v := .int .i64 (d : Int)) rfl (by kernel_rfl) (by kernel_rfl) (by kernel_rfl) (by kernel_rfl) (fun _ _ _ h => h) (Or.inl ⟨by kernel_rfl, fun wx hx => by obtain ⟨k0, k1, k2, k3, k4, k5⟩ := HCl.out wx hx; go_simp⟩) hS ?_
    refine HI.take (i := 2) (v := .pointer (some ⟨z, 0, none⟩)) rfl (by kernel_rfl) (by kernel_rfl) (by kernel_rfl) (by kernel_rfl) (fun _ _ _ h => h) (Or.inl ⟨by kernel_rfl, fun wx hx => by go_simp⟩) hS ?_
    refine HI.take (i := 3) (v := .int .i64 (a : Int)) rfl (by kernel_rfl) (by kernel_rfl) (by kernel_rfl) (by kernel_rfl) (fun _ _ _ h => h) (Or.inl ⟨by kernel_rfl, fun wx hx => by obtain ⟨k0, k1, k2, k3, k4, k5⟩ := HCl.out wx hx; go_simp⟩) hS ?_
    refine HI.take (i := 4) (v := .slice (some ⟨g, off + d, none⟩) (a - d) (vc - d)) rfl (by kernel_rfl) (by kernel_rfl) (by kernel_rfl) (by kernel_rfl) (fun _ _ _ h => h) (Or.inl ⟨by kernel_rfl, fun wx hx => by go_simp⟩) hS ?_
    refine HI.take (i := 5) (v := .func (.yield l) #[] #[]) rfl (by kernel_rfl) (by kernel_rfl) (by kernel_rfl) (by kernel_rfl) (fun _ _ _ h => h) (Or.inl ⟨by kernel_rfl, fun wx hx => by obtain ⟨k0, k1, k2, k3, k4, k5⟩ := HCl.out wx hx; go_simp⟩) hS ?_
    have t25 := HTU.out (.slice (some ⟨g, off + d, none⟩) (a - d) (vc - d)) ((p.drop d).take (a - d)) xs A.drew (by have := HP.out.s; show b0 ≤ A.heap.size; omega) (HJb.out _ _ _ HJA.out (Kg.below (Below.refl _ _).drew)) (by rw [List.length_take, List.length_drop]; omega)
      (rdY_sub (k := d) (m := a - d) (HP.out.r.stay (B := A.drew) (fun _ _ _ o ho => ho)) (by omega) (vc - d) ⟨by omega, by omega⟩)
      (fun _ k hk => HVN.out (by omega) k (by simp [ob, Value.ownBlock] at hk ⊢; exact hk))
      (fun i hi => by
        rw [H2.out]
        rw [← Hd.out] at hi ⊢
        exact pl0_chunk HMt.out hi)
    refine HI.lone (i := 6) rfl (by kernel_rfl) (fun Kq hK => ?_)
    go_simp
    refine ⟨trivial, ?_⟩
    refine ((callsIn_wide.2 (callsIn_wide.1 t25)).inRound l').mono ?_
    rintro e V ⟨rfl, ys, hys, hJ2, hk2⟩
    have hSV := HKS.out _ _ hk2 hS
    refine hK.out _ _ hSV (fun hS => ?_)
    clear hK t25
    refine HI.take (i := 7) (v := .bool false) rfl (by kernel_rfl) (by kernel_rfl) (by kernel_rfl) (by kernel_rfl) (fun _ _ _ h => h) (Or.inl ⟨by kernel_rfl, fun wx hx => by go_simp⟩) hS ?_
    refine HI.take (i := 8) (v := .bool false) rfl (by kernel_rfl) (by kernel_rfl) (by kernel_rfl) (by kernel_rfl) (fun _ _ _ h => h) (Or.inl ⟨by kernel_rfl, fun wx hx => by go_simp⟩) hS ?_
    refine HI.take (i := 9) (v := .func (.yield l) #[] #[]) rfl (by kernel_rfl) (by kernel_rfl) (by kernel_rfl) (by kernel_rfl) (fun _ _ _ h => h) (Or.inl ⟨by kernel_rfl, fun wx hx => by obtain ⟨k0, k1, k2, k3, k4, k5⟩ := HCl.out wx hx; go_simp⟩) hS ?_
    refine HI.take (i := 10) (v := .pointer (some ⟨z, 1, none⟩)) rfl (by kernel_rfl) (by kernel_rfl) (by kernel_rfl) (by kernel_rfl) (fun _ _ _ h => h) (Or.inl ⟨by kernel_rfl, fun wx hx => by go_simp⟩) hS ?_
    refine HI.take (i := 11) (v := .int .i64 (f : Int)) rfl (by kernel_rfl) (by kernel_rfl) (by kernel_rfl) (by kernel_rfl) (fun _ _ _ h => h) (Or.inl ⟨by kernel_rfl, fun wx hx => by obtain ⟨k0, k1, k2, k3, k4, k5⟩ := HCl.out wx hx; go_simp⟩) hS ?_
    refine HI.take (i := 12) (v := .pointer (some ⟨z, 2, none⟩)) rfl (by kernel_rfl) (by kernel_rfl) (by kernel_rfl) (by kernel_rfl) (fun _ _ _ h => h) (Or.inl ⟨by kernel_rfl, fun wx hx => by go_simp⟩) hS ?_
    refine HI.take (i := 13) (v := .int .i64 (n' : Int)) rfl (by kernel_rfl) (by kernel_rfl) (by kernel_rfl) (by kernel_rfl) (fun _ _ _ h => h) (Or.inl ⟨by kernel_rfl, fun wx hx => by obtain ⟨k0, k1, k2, k3, k4, k5⟩ := HCl.out wx hx; go_simp⟩) hS ?_
    refine HI.take (i := 14) (v := .agg #[.slice none 0 0, .int .i64 (f : Int), .int .i64 (n' : Int)]) rfl (by kernel_rfl) (by kernel_rfl) (by kernel_rfl) (by kernel_rfl) (fun _ _ _ h => h) (Or.inl ⟨by kernel_rfl, fun wx hx => by go_simp⟩) hS ?_
    obtain ⟨fn, tmps, assign, body, hy, hR⟩ := HY.out ys ((none, 0, 0), f, n') V hJ2 ⟨⟨[], f, n'⟩, by rw [hys, H2.out, ← Hd.out]; exact pl0_match HMt.out, (owny_nil _ 0).rd, rfl, rfl, rfl⟩
    simp only [encp, pcv] at hy
    refine HI.lone (i := 15) rfl (by kernel_rfl) (fun Kq hK => ?_)
    go_simp
    refine RoundIn.mono (F := Fence.wide.inRound l') (roundIn_lev hR) ?_
    rintro e C ⟨rfl, hJ3, hk3⟩
    have hSC := HKS.out _ _ hk3 hS
    refine hK.out _ _ hSC (fun hS => ?_)
    clear hK hR hy
    refine HI.take (i := 16) (v := .bool false) rfl (by kernel_rfl) (by kernel_rfl) (by kernel_rfl) (by kernel_rfl) (fun _ _ _ h => h) (Or.inl ⟨by kernel_rfl, fun wx hx => by go_simp⟩) hS ?_
    refine HI.take (i := 17) (v := .bool false) rfl (by kernel_rfl) (by kernel_rfl) (by kernel_rfl) (by kernel_rfl) (fun _ _ _ h => h) (Or.inl ⟨by kernel_rfl, fun wx hx => by go_simp⟩) hS ?_
    refine HI.done (by kernel_rfl) ?_
    unfold only
    go_simp
    have HK : Hid (Kz m N X A.drew C) := ⟨hk2.trans hk3⟩
    have HJ3' := Hid.mk hJ3
    have HSC := Hid.mk hSC
    have Hys := Hid.mk hys
    obtain ⟨k0, k1, k2, k3, k4, k5⟩ := HCl.out C hSC
    have f1 : C.frozen? ⟨b0 + 1, 0, none⟩ = false := frozen_of_row C (b0 + 1) 0 _ 3 hSC.2.1
    have hw : IntKind.i64.wrap ((a : Int) + (n' : Int)) = (a : Int) + n' := IntWalk.i64_in _ ⟨by omega, by omega⟩
    clear hS hSV hSC hk2 hk3 hJ2 hJ3 hys
    gi_wp2
    have hcc := (Chg.refl [b0 + 1] C).setCell (a := ⟨b0 + 1, 0, none⟩) (.inl (by simp)) (.int .i64 ((a : Int) + n'))
    have hset := heap_setCell_same C (b0 + 1) 0 _ 3 (.int .i64 ((a : Int) + n')) HSC.out.2.1
    have hs3 := HS3.out
    have hKc : Kc b0 C (C.setCell ⟨b0 + 1, 0, none⟩ (.int .i64 ((a : Int) + n'))) := Kg.chg hcc (fun k o ho hk hm' => by
      simp at hm'
      subst hm'
      rw [HSC.out.2.1] at ho
      cases ho
      rcases hk with hk | hk
      · omega
      · cases hk)
    have hKz : Kz (b0 + 5) N ((b0 + 1) :: X) A (C.setCell ⟨b0 + 1, 0, none⟩ (.int .i64 ((a : Int) + n'))) := by
      refine ((Kg.below (Below.refl _ A).drew : Kz (b0 + 5) N ((b0 + 1) :: X) A A.drew).trans (HK.out.mono (fun k o _ hk => ?_))).trans (Kg.chg hcc (fun k o ho hk hm' => ?_))
      · rcases hk with ⟨h1, h2⟩ | ⟨h1, h2⟩
        · exact .inl ⟨fun h => h1 (List.mem_cons_of_mem _ h), h2⟩
        · exact .inr ⟨by omega, h2⟩
      · simp at hm'
        subst hm'
        rcases hk with ⟨h1, h2⟩ | ⟨h1, h2⟩
        · exact h1 (by simp)
        · omega
    have hKf : KeepsFrom w3.heap.size A (C.setCell ⟨b0 + 1, 0, none⟩ (.int .i64 ((a : Int) + n'))) := ⟨Nat.le_trans HK.out.1 hcc.size, fun k o hk ho hc => by
      have h1 := HK.out.2 k o ho (.inr ⟨by omega, hc⟩)
      exact (hcc.block k (Array.getElem?_eq_some_iff.1 h1).1 (by simp; omega)).trans h1⟩
    have hPA : StP l b0 q (.slice (some ⟨g, off, none⟩) n vc) p d A.drew := ⟨HP.out.y, HP.out.d, HP.out.q, HP.out.r.stay (fun _ _ _ o ho => ho), HP.out.s⟩
    have hPC := hPA.keep HV1.out HK.out.1 (fun k o ho hx => HK.out.2 k o ho (.inl (by
      rcases hx with rfl | rfl | rfl | ⟨hx, hm⟩
      · exact ⟨fun h => by have := HXW.out _ h; omega, .inr (by rw [hPA.y] at ho; cases ho; rfl)⟩
      · exact ⟨fun h => by have := HXW.out _ h; omega, .inr (by rw [hPA.d] at ho; cases ho; rfl)⟩
      · exact ⟨hqX, .inr (by rw [hPA.q] at ho; cases ho; rfl)⟩
      · exact ⟨(HVN.out (by omega) k hm).2, .inl hx⟩)))
    refine ⟨hKf, hKz, by have h := HTn.out; rw [List.length_append] at h; exact h, ⟨_, ?_, HJb.out _ _ _ HJ3'.out hKc⟩, ?_⟩
    · rw [HLen.out, List.length_append, Hys.out]
      rfl
    · rw [HDn.out]
      have hne : ∀ k, k ≠ b0 + 1 → (C.setCell ⟨b0 + 1, 0, none⟩ (.int .i64 ((a : Int) + n'))).heap[k]? = C.heap[k]? := fun k hk => heap_setCell_other C ⟨b0 + 1, 0, none⟩ k _ hk
      have hqb := HQb.out
      refine ⟨(hne b0 (by omega)).trans hPC.y, ?_, (hne q (by omega)).trans hPC.q, hPC.r.stay (fun h0 k hk o ho => (hne k (by have := HV1.out h0 k hk; omega)).trans ho), Nat.le_trans hPC.s hcc.size⟩
      rw [show ((a + n' : Nat) : Int) = (a : Int) + n' by omega]
      exact hset
  case hdone =>
    rintro D xs A hD rfl ⟨h1, ⟨ys, h2, h3⟩, h4⟩ hKD
    obtain ⟨d, Hd⟩ : ∃ d, Hid (dn 0 (mtl p 0) = d) := ⟨_, ⟨rfl⟩⟩
    have hdn : d ≤ n := by rw [← Hd.out, ← Hn.out]; exact dn_le (mtl_row p)
    have HLen : Hid ((pl0 p).length = ys.length + cnk (p.drop d).length) := ⟨by rw [pl0_len, h2, Hd.out]⟩
    rw [Hd.out] at h4
    have HP := Hid.mk h4
    have HJ := Hid.mk h3
    have H2 := Hid.mk h2
    have HKD := Hid.mk hKD
    clear h1 h2 h3 h4 hKD
    obtain ⟨sv, Hsv⟩ : ∃ sv : Value, Hid ((vc = d ∧ sv = .slice va 0 0) ∨ (vc ≠ d ∧ ∃ x, va = some x ∧ sv = .slice (some (x.add d)) (n - d) (vc - d))) := by
      by_cases hvd : vc = d
      · exact ⟨_, ⟨.inl ⟨hvd, rfl⟩⟩⟩
      · cases va with
        | none => exact absurd (by have := HV.out.shape; obtain ⟨_, _, e, _, _, h⟩ := this; simp only [Value.slice.injEq] at e; obtain ⟨rfl, -, rfl⟩ := e; have := h rfl; omega) hvd
        | some x => exact ⟨_, ⟨.inr ⟨hvd, x, rfl, rfl⟩⟩⟩
    have HRs : Hid (RdY A.drew sv (p.drop d)) := ⟨by
      have hr : RdY A.drew (.slice va n vc) p := HP.out.r.stay (fun _ _ _ o ho => ho)
      rcases Hsv.out with ⟨hvd, rfl⟩ | ⟨hvd, x, rfl, rfl⟩
      · have hl : p.drop d = [] := List.drop_eq_nil_of_le (by rw [Hn.out]; omega)
        rw [hl]
        exact ⟨_, _, by rw [yv_len]; rfl, by rw [yv_len]; exact Nat.zero_le _, by unfold maxLen; omega, fun _ => rfl, fun y _ i hi => by rw [yv_len] at hi; exact absurd hi (Nat.not_lt_zero _)⟩
      · exact rdY_from hr hdn⟩
    have HNs : Hid (0 < (p.drop d).length → ∀ k ∈ ob sv, k < N ∧ k ∉ X) := ⟨fun h0 k hk => by
      rw [List.length_drop, Hn.out] at h0
      rcases Hsv.out with ⟨hvd, rfl⟩ | ⟨hvd, x, rfl, rfl⟩
      · omega
      · refine HVN.out (by omega) k ?_
        simp [ob, Value.ownBlock, add_block] at hk ⊢
        exact hk⟩
    have t25 := (callsIn_wide (n := 10)).1 (HTU.out sv (p.drop d) ys A.drew (by have := HP.out.s; show b0 ≤ A.heap.size; omega) (HJb.out _ _ _ HJ.out (Kg.below (Below.refl _ _).drew)) (by rw [List.length_drop, Hn.out]; omega) HRs.out HNs.out (fun i hi => by
      rw [H2.out]
      rw [← Hd.out] at hi ⊢
      exact pl0_last hi))
    have HCl : Hid (∀ w' : World, (w'.heap[b0]? = some (.cells #[.func (.yield l) #[] #[]] 50 (0, 0)) ∧ w'.heap[b0 + 1]? = some (.cells #[.int .i64 (d : Int)] 3 (0, 0)) ∧ w'.heap[q]? = some (.cells #[.slice va n vc] 22 (0, 0))) →
        w'.cell? ⟨b0, 0, none⟩ = some (.func (.yield l) #[] #[]) ∧ w'.cell? ⟨b0 + 1, 0, none⟩ = some (.int .i64 (d : Int)) ∧ w'.cell? ⟨q, 0, none⟩ = some (.slice va n vc)) := ⟨fun w' h => ⟨by rw [cell_of_row _ _ _ _ _ _ h.1]; rfl, by rw [cell_of_row _ _ _ _ _ _ h.2.1]; rfl, by rw [cell_of_row _ _ _ _ _ _ h.2.2]; rfl⟩⟩
    have hS0 : A.drew.heap[b0]? = some (.cells #[.func (.yield l) #[] #[]] 50 (0, 0)) ∧ A.drew.heap[b0 + 1]? = some (.cells #[.int .i64 (d : Int)] 3 (0, 0)) ∧ A.drew.heap[q]? = some (.cells #[.slice va n vc] 22 (0, 0)) := ⟨HP.out.y, HP.out.d, HP.out.q⟩
    have HDD : Hid (A.drew.heap[D]? = some (.deferred (some []))) := ⟨HKD.out⟩
    have hbD : b0 ≤ D := by have := HS3.out; omega
    have hzd : (d : Int) ≤ (n : Int) := by omega
    have hzv : (d : Int) ≤ (vc : Int) := by omega
    have hs := Hsv.out
    gi_wp2_with fail
    refine wpIn_norm ?_
    refine wpIn_wide.2 ?_
    rcases hs with ⟨hvd, rfl⟩ | ⟨hvd, x, rfl, rfl⟩
    · refine wp_region_held_drew (S := fun w' => w'.heap[b0]? = some (.cells #[.func (.yield l) #[] #[]] 50 (0, 0)) ∧ w'.heap[b0 + 1]? = some (.cells #[.int .i64 (d : Int)] 3 (0, 0)) ∧ w'.heap[q]? = some (.cells #[.slice va n vc] 22 (0, 0))) (by kernel_rfl) hS0 (fun hS => ?_)
      clear hS0
      refine wpAnyH_take (i := 0) (v := .slice va n vc) rfl (by kernel_rfl) (by kernel_rfl) (by kernel_rfl) (fun _ _ _ h => h) (Or.inl ⟨by kernel_rfl, fun wx hx => by obtain ⟨k0, k1, k2⟩ := HCl.out wx hx; go_simp⟩) hS ?_
      refine wpAnyH_take (i := 1) (v := .int .i64 (d : Int)) rfl (by kernel_rfl) (by kernel_rfl) (by kernel_rfl) (fun _ _ _ h => h) (Or.inl ⟨by kernel_rfl, fun wx hx => by obtain ⟨k0, k1, k2⟩ := HCl.out wx hx; go_simp⟩) hS ?_
      refine wpAnyH_take (i := 2) (v := .slice va 0 0) rfl (by kernel_rfl) (by kernel_rfl) (by kernel_rfl) (fun _ _ _ h => h) (Or.inl ⟨by kernel_rfl, fun wx hx => by go_simp; omega⟩) hS ?_
      refine wpAnyH_take (i := 3) (v := .func (.yield l) #[] #[]) rfl (by kernel_rfl) (by kernel_rfl) (by kernel_rfl) (fun _ _ _ h => h) (Or.inl ⟨by kernel_rfl, fun wx hx => by obtain ⟨k0, k1, k2⟩ := HCl.out wx hx; go_simp⟩) hS ?_
      refine wpAnyH_ready (rs := [4]) (by kernel_rfl) (by simp) (AllReadyH.cons rfl (fun Kq hK => ?_) AllReadyH.nil)
      go_simp
      refine t25.mono ?_
      rintro e V ⟨rfl, zs, hzs, hJ2, hk2⟩
      have hSV : V.heap[b0]? = some (.cells #[.func (.yield l) #[] #[]] 50 (0, 0)) ∧ V.heap[b0 + 1]? = some (.cells #[.int .i64 (d : Int)] 3 (0, 0)) ∧ V.heap[q]? = some (.cells #[.slice va n vc] 22 (0, 0)) := ⟨hk2.2 _ _ hS.1 (.inl ⟨fun hm => by have := HXW.out _ hm; omega, .inr rfl⟩), hk2.2 _ _ hS.2.1 (.inl ⟨fun hm => by have := HXW.out _ hm; omega, .inr rfl⟩), hk2.2 _ _ hS.2.2 (.inl ⟨hqX, .inr rfl⟩)⟩
      refine hK.out _ _ hSV (fun hS => ?_)
      clear hK t25
      refine wpAnyH_done (by kernel_rfl) ?_ _
      unfold only
      go_simp
      have hVD := hk2.2 _ _ HDD.out (.inr ⟨by omega, rfl⟩)
      refine ⟨by simp, .inl ⟨_, _, rfl, run_takeDeferred hVD, ?_⟩⟩
      exact ⟨_, results_none rfl _ _ _, ⟨_, rfl⟩, zs, by rw [hzs, HLen.out], HJb.out _ _ _ hJ2 (Kc.putNon hbD ⟨_, hVD, rfl⟩)⟩
    · refine wp_region_held_drew (S := fun w' => w'.heap[b0]? = some (.cells #[.func (.yield l) #[] #[]] 50 (0, 0)) ∧ w'.heap[b0 + 1]? = some (.cells #[.int .i64 (d : Int)] 3 (0, 0)) ∧ w'.heap[q]? = some (.cells #[.slice (some x) n vc] 22 (0, 0))) (by kernel_rfl) hS0 (fun hS => ?_)
      clear hS0
      refine wpAnyH_take (i := 0) (v := .slice (some x) n vc) rfl (by kernel_rfl) (by kernel_rfl) (by kernel_rfl) (fun _ _ _ h => h) (Or.inl ⟨by kernel_rfl, fun wx hx => by obtain ⟨k0, k1, k2⟩ := HCl.out wx hx; go_simp⟩) hS ?_
      refine wpAnyH_take (i := 1) (v := .int .i64 (d : Int)) rfl (by kernel_rfl) (by kernel_rfl) (by kernel_rfl) (fun _ _ _ h => h) (Or.inl ⟨by kernel_rfl, fun wx hx => by obtain ⟨k0, k1, k2⟩ := HCl.out wx hx; go_simp⟩) hS ?_
      refine wpAnyH_take (i := 2) (v := .slice (some (x.add d)) (n - d) (vc - d)) rfl (by kernel_rfl) (by kernel_rfl) (by kernel_rfl) (fun _ _ _ h => h) (Or.inl ⟨by kernel_rfl, fun wx hx => by go_simp⟩) hS ?_
      refine wpAnyH_take (i := 3) (v := .func (.yield l) #[] #[]) rfl (by kernel_rfl) (by kernel_rfl) (by kernel_rfl) (fun _ _ _ h => h) (Or.inl ⟨by kernel_rfl, fun wx hx => by obtain ⟨k0, k1, k2⟩ := HCl.out wx hx; go_simp⟩) hS ?_
      refine wpAnyH_ready (rs := [4]) (by kernel_rfl) (by simp) (AllReadyH.cons rfl (fun Kq hK => ?_) AllReadyH.nil)
      go_simp
      refine t25.mono ?_
      rintro e V ⟨rfl, zs, hzs, hJ2, hk2⟩
      have hSV : V.heap[b0]? = some (.cells #[.func (.yield l) #[] #[]] 50 (0, 0)) ∧ V.heap[b0 + 1]? = some (.cells #[.int .i64 (d : Int)] 3 (0, 0)) ∧ V.heap[q]? = some (.cells #[.slice (some x) n vc] 22 (0, 0)) := ⟨hk2.2 _ _ hS.1 (.inl ⟨fun hm => by have := HXW.out _ hm; omega, .inr rfl⟩), hk2.2 _ _ hS.2.1 (.inl ⟨fun hm => by have := HXW.out _ hm; omega, .inr rfl⟩), hk2.2 _ _ hS.2.2 (.inl ⟨hqX, .inr rfl⟩)⟩
      refine hK.out _ _ hSV (fun hS => ?_)
      clear hK t25
      refine wpAnyH_done (by kernel_rfl) ?_ _
      unfold only
      go_simp
      have hVD := hk2.2 _ _ HDD.out (.inr ⟨by omega, rfl⟩)
      refine ⟨by simp, .inl ⟨_, _, rfl, run_takeDeferred hVD, ?_⟩⟩
      exact ⟨_, results_none rfl _ _ _, ⟨_, rfl⟩, zs, by rw [hzs, HLen.out], HJb.out _ _ _ hJ2 (Kc.putNon hbD ⟨_, hVD, rfl⟩)⟩
end
end Go.Proofs.Ytoneepoaodoijaa
