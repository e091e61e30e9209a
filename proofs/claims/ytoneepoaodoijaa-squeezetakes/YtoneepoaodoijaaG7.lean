/- Put: bytes, squeezed. -/
import Derived.Test.YtoneepoaodoijaaG6
import Derived.Test.YtoneepoaodoijaaP7
namespace Go.Proofs.Ytoneepoaodoijaa
open Go.RowKit Go.Lib Go.Shelf Oct

/-- What Put answers. -/
def PutV (w' : World) (base : Nat) (p : List Int) (e : Ending) : Prop := ∃ (a : Option Addr) (n c : Nat) (z : Int) (L : List Int), e = .returned (.tuple #[.slice a n c, .int .i64 z]) ∧ OwnY w' base (.slice a n c) L ∧ ((8192 < p.length ∧ L = [] ∧ z = 6) ∨ (p.length ≤ 8192 ∧ L = sqz p ∧ z = 0))
theorem mem2 {w w3 : World} {o0 o1 : Obj} (h : (w.alloc o0).alloc o1 = w3) :
    w3.heap[w.heap.size]? = some o0 ∧ w3.heap[w.heap.size + 1]? = some o1 ∧ w3.heap.size = w.heap.size + 2 ∧ Below w.heap.size w w3 := by
  subst h
  refine ⟨stay_alloc _ (new_alloc _ rfl), new_alloc _ (by simp), by simp, (((Below.refl _ w).alloc (Nat.le_refl _) _).alloc (by simp) _)⟩
theorem rdy_of {c : Bool} {X Y : Prop} (hc : c = true) (h : X) : if c = true then X else Y := by rw [if_pos hc]; exact h
theorem HI.two {l n : Nat} {P : Program} {ops : Array Oper} {Q : Exit → Act → World → Prop} {S : World → Prop} {i j : Nat} {oi oj : Oper} {k : Nat} {ls : Array Bool} {a : Act} {w : World} (hi : ops[i]? = some oi) (hj : ops[j]? = some oj) (hr : Region.ready .any ops ls = [i, j])
    (h1 : ∀ K : Act → World → Prop, Shut (∀ b v, S v → (S v → HI l n P ops Q S k (ls.setIfInBounds i true) b v) → K b v) → if Region.wanted oi (yielded ops a.tmps) = true then oi.wpIn (Fence.wide.inRound l) n P a w K Q else (∀ f, oi.about P w a.eval = some f → (Fence.wide.inRound l).fn f) ∧ K (a.put oi.dst undef) w)
    (h2 : ∀ K : Act → World → Prop, Shut (∀ b v, S v → (S v → HI l n P ops Q S k (ls.setIfInBounds j true) b v) → K b v) → if Region.wanted oj (yielded ops a.tmps) = true then oj.wpIn (Fence.wide.inRound l) n P a w K Q else (∀ f, oj.about P w a.eval = some f → (Fence.wide.inRound l).fn f) ∧ K (a.put oj.dst undef) w) : HI l n P ops Q S (k + 1) ls a w := by
  refine ⟨fun h0 => (by rw [hr] at h0; cases h0), fun m hm => ?_⟩
  rw [hr] at hm
  simp only [List.mem_cons, List.not_mem_nil, or_false] at hm
  rcases hm with rfl | rfl
  · unfold wpOpIn
    rw [hi]
    exact h1 _ (fun b v hS hW => ⟨hS, hW hS⟩)
  · unfold wpOpIn
    rw [hj]
    exact h2 _ (fun b v hS hW => ⟨hS, hW hS⟩)
theorem opi_appY {F : Fence} {n : Nat} {w : World} {o : Oper} {ac : Act} {K : Act → World → Prop} {Q : Exit → Act → World → Prop} (s x : Operand)
    (ho : o.op = .call { callee := .builtin .append, args := #[s, x], argTypes := #[22, 22] })
    {base : Nat} {v u : Value} {xs ys : List Int} (hs : ac.eval s = v) (hx : ac.eval x = u) (hown : OwnY w base v xs) (hu : RdY w u ys) (hy : 0 < ys.length) (hlen : xs.length + ys.length ≤ 1000000000000) (hbase : base ≤ w.heap.size)
    (h : ∀ v' w', OwnY w' base v' (xs ++ ys) → Chg (ob v) w w' → K (ac.put o.dst v') w') : o.wpIn F n Try.prog ac w K Q := by
  obtain ⟨i0, hi, hz0, hz1, hz2⟩ := info_parts' infoByte
  obtain ⟨g, off, cap, rfl, _, hat⟩ := hu.at hy
  obtain ⟨v', w', hr, h2, h3, h4⟩ := run_append_at (P := Try.prog) w base 22 o.type 5 i0 (.int .u8 0) 1 Try.underlying22 hi hz0 hz1 hz2 rfl v xs.length _ hown ⟨g, off, none⟩ ys.length cap (yv ys) (yv_len ys) (fun j u hj => by
    have hjl : j < ys.length := by
      rcases Nat.lt_or_ge j ys.length with h | h
      · exact h
      · rw [List.getElem?_eq_none (by rw [yv_len]; exact h)] at hj; cases hj
    rw [add_add, hat j hjl]
    rw [yv_get ys hjl] at hj
    exact hj) (yv_one ys) (by unfold maxLen; omega) (by omega) hbase
  unfold Oper.wpIn
  refine ⟨?_, ?_⟩
  · simp [Oper.about, ho, resolve, Target.leads, Sem.run_pure]
  · rw [Oper.semAt_plain F _ _ (by rw [ho]; intro c hc'; cases hc')]
    simp [execOp, ho, resolve, invoke, builtin, hs, hx, hr, Result.andThen, Oper.uponIn]
    exact h v' w' (by unfold OwnY; rw [yv_app, List.length_append]; exact h2) (Chg.ofGrown h3)
/-- Between two pieces. -/
def InvP (b0 : Nat) (v : Value) (p : List Int) (w : World) (k : Nat) (A : World) : Prop := ∃ sv, A.heap[b0]? = some (.cells #[sv] 22 (0, 0)) ∧ OwnY A (b0 + 2) sv (lays ((pl0 p).take k)) ∧ A.heap[b0 + 1]? = some (.cells #[v] 22 (0, 0)) ∧ Below b0 w A ∧ b0 + 2 ≤ A.heap.size
def MidP (b0 : Nat) (va : Option Addr) (n vc : Nat) (p : List Int) (w : World) (k : Nat) (x : Yp) (act : Act) (A : World) : Prop := ∃ z, act = { tmps := #[.slice va n vc, undef, .slice none 0 0, .int .i64 0, .pointer (some ⟨b0, 0, none⟩), .pointer (some ⟨z, 0, none⟩), .slice va n vc, .int .i64 (n : Int), .bool false, .slice va n vc, .func (.func 23) #[] #[.pointer (some ⟨b0 + 1, 0, none⟩)], pcv x.1.1 x.1.2.1 x.1.2.2 x.2.1 x.2.2, undef, undef, undef, undef, undef], defers := [] } ∧ InvP b0 (.slice va n vc) p w k A ∧ A.heap[z]? = some (.cells #[.slice x.1.1 x.1.2.1 x.1.2.2, .int .i64 (x.2.1 : Int), .int .i64 (x.2.2 : Int)] 38 (0, 0)) ∧ b0 + 2 ≤ z ∧ IsP A p k x
theorem lays_take {p : List Int} {k : Nat} {y : Pc} (h : (pl0 p)[k]? = some y) : lays ((pl0 p).take (k + 1)) = lays ((pl0 p).take k) ++ lay y := by
  rw [List.take_add_one, h, lays_app]
  simp [lays]
theorem lays_take_len (p : List Int) (k : Nat) : (lays ((pl0 p).take k)).length ≤ p.length + p.length / 128 + 1 := by
  have h := sqz_len p
  have e : sqz p = lays ((pl0 p).take k) ++ lays ((pl0 p).drop k) := by rw [← lays_app, List.take_append_drop]; rfl
  rw [e, List.length_append] at h
  omega
section
variable {w : World}
attribute [local go_sem] Oper.semAt_some
set_option maxHeartbeats 8000000 in
set_option maxRecDepth 100000 in
theorem put9 (v : Value) (p : List Int) (hv : RdY w v p) (hby : By p) :
    Calls Try.prog 9 #[v] w fun e w' => PutV w' w.heap.size p e ∧ Below w.heap.size w w' := by
  obtain ⟨va, vc, rfl, hvc, hvm, _⟩ := hv.shape
  have HV := Hid.mk hv
  obtain ⟨n, Hn⟩ : ∃ n, Hid (p.length = n) := ⟨_, ⟨rfl⟩⟩
  rw [Hn.out] at HV hvc ⊢
  clear hv
  by_cases h8 : 8192 < n
  · have hz : (8192 : Int) < (n : Int) := by omega
    go_enter Try.func9, Try.ntmps9
    go_wp2_with fail
    go_ret2
    exact ⟨⟨none, 0, 0, 6, [], rfl, owny_nil _ _, .inl ⟨by rw [Hn.out]; exact h8, rfl, rfl⟩⟩, Below.refl _ _⟩
  · have hz : ¬ (8192 : Int) < (n : Int) := by omega
    have HFine : Hid (∀ k y, (pl0 p)[k]? = some y → FineP y) := ⟨fun k y hy => (pcs_tells hby (Int.le_refl _) _ _ (mtl_row p)).fine y (List.mem_of_getElem? hy)⟩
    have t14 := fun w' => pieces14 (w := w') (.slice va n vc) ⟨_, _, _, rfl⟩
    obtain ⟨b0, Hb⟩ : ∃ b, Hid (w.heap.size = b) := ⟨_, ⟨rfl⟩⟩
    refine (callsIn_wide (n := 10)).1 ?_
    refine callsIn_of_wp_marks Try.func9 rfl trivial ?_ rfl
    simp only [Try.ntmps9, List.size_toArray, List.length_cons, List.length_nil, Nat.reduceAdd, Nat.reduceSub, Array.replicate_succ, Array.replicate_zero, List.push_toArray, List.append_toArray, List.nil_append, List.cons_append]
    gi_wp2_with fail
    refine ⟨trivial, ?_⟩
    refine (callsIn_wide.2 (t14 _)).mono ?_
    rintro e w3 ⟨rfl, hw3⟩
    have HM := Hid.mk (mem2 hw3.symm)
    have hsz : (w.alloc (.cells #[.slice none 0 0] 22)).heap.size = b0 + 1 := by rw [← Hb.out]; simp
    rw [hsz, Hb.out]
    rw [Hb.out] at HM
    clear hw3 hsz t14
    have HS3 : Hid (w3.heap.size = b0 + 2) := ⟨HM.out.2.2.1⟩
    have Hbw : Hid (b0 ≤ w.heap.size) := ⟨by rw [Hb.out]; exact Nat.le_refl _⟩
    gi_wp2
    have HSQ : Hid (SeqK Fence.wide 9 Try.prog 23 #[.pointer (some ⟨b0 + 1, 0, none⟩)] encp (Kz (b0 + 4) b0 [b0]) (fun xs => xs.length = (pl0 p).length) (fun pre x A => IsP A p pre.length x) w3) := ⟨fun l' J' V hV hV2 hJb' hY' hj0' => by
      have hs3 := HS3.out
      have hq2 := (hV.block (b0 + 1) (by omega)).trans HM.out.2.1
      have hbw := HM.out.2.2.2
      have hb := Hb.out
      refine pieces23_v (.slice va n vc) p l' (b0 + 1) (b0 + 4) b0 [b0] J' V (by rw [Hn.out]; omega) (HV.out.stay (fun _ k _ o ho => (hV.block k (by have := (Array.getElem?_eq_some_iff.1 ho).1; omega)).trans ((hbw.block k (by have := (Array.getElem?_eq_some_iff.1 ho).1; omega)).trans ho)))
        (fun h0 k hk => by
          have h1 := (RdY.lt HV.out h0 k hk).1
          refine ⟨by omega, fun hm => ?_⟩
          simp at hm
          omega) hq2 (by simp) (by omega) (by omega) (fun k hk => by simp at hk; omega) hJb' hY' hj0'⟩
    refine range_k rfl (by decide) (gf := 23) (lb := #[.pointer (some ⟨b0 + 1, 0, none⟩)]) rfl trivial (enters_of Try.func23 (by kernel_rfl) rfl) HSQ.out (fun _ => rfl) (fun h k => Kg.trans h k) (fun A o hx => by
        obtain ⟨r, hr⟩ := hx
        have hs3 := HS3.out
        exact Kz.put (by omega) (by omega) ⟨_, hr, rfl⟩)
      (fun pre A => InvP b0 (.slice va n vc) p w pre.length A)
      (fun pre x act A => MidP b0 va n vc p w pre.length x act A)
      ?hIb ?hMo ?h0 ?hassign ?hbody ?hdone
    case hIb =>
      rintro pre A B ⟨sv, h1, h2, h3, h4, h5⟩ hk
      have hs3 := HS3.out
      exact ⟨sv, hk.old h1 (by omega), h2.kc hk, hk.old h3 (by omega), Kg.under h4 hk (fun k o hlt => .inl (by omega)) Hbw.out, Nat.le_trans h5 hk.1⟩
    case hMo =>
      rintro pre x act A l' o ⟨z, h0, ⟨sv, h1, h2, h3, h4, h5⟩, h6, h7, ⟨y, h8, h9, h10⟩⟩ hl hx
      have hs3 := HS3.out
      refine ⟨z, h0, ⟨sv, (World.putObj_heap_other (by omega)).trans h1, h2.put hx, (World.putObj_heap_other (by omega)).trans h3, h4.trans ((chg_put A l' o).below (by omega) (by simp; omega)), by simpa using h5⟩, ?_, h7, ⟨y, h8, h9.put hx, h10⟩⟩
      refine (World.putObj_heap_other (fun e => ?_)).trans h6
      subst e
      obtain ⟨y, e1, e2⟩ := hx
      rw [h6] at e1
      cases e1
      cases e2
    case h0 => exact ⟨.slice none 0 0, HM.out.1, owny_nil _ _, HM.out.2.1, HM.out.2.2.2, by rw [HS3.out]; exact Nat.le_refl _⟩
    case hassign =>
      rintro l' pre ⟨⟨ya, yn, yc⟩, yf, ym⟩ A ⟨sv, h1, h2, h3, h4, h5⟩ ⟨y, h8, h9, h10⟩
      have H1 := Hid.mk h1
      have H2 := Hid.mk h2
      have H3 := Hid.mk h3
      have H4 := Hid.mk h4
      have H5 := Hid.mk h5
      have H8 := Hid.mk h8
      have H9 := Hid.mk h9
      have H10 := Hid.mk h10
      simp only [encp, pcv]
      clear h1 h2 h3 h4 h5 h8 h9 h10
      gi_wp2
      have hbl : Below A.heap.size A (A.alloc (.cells #[.slice ya yn yc, .int .i64 (yf : Int), .int .i64 (ym : Int)] 38)) := (Below.refl _ A).alloc (Nat.le_refl _) _
      refine ⟨⟨hbl.size, fun k o _ hk _ => stay_alloc _ hk⟩, Kg.below hbl, ?_⟩
      unfold MidP
      exact ⟨A.heap.size, rfl, ⟨sv, stay_alloc _ H1.out, H2.out.kc (n := 0) (Kg.below hbl), stay_alloc _ H3.out, H4.out.trans (hbl.mono (by have := H5.out; omega)), Nat.le_trans H5.out hbl.size⟩, heap_alloc_new A _, H5.out, ⟨y, H8.out, H9.out.stay (fun _ k _ o ho => stay_alloc _ ho), H10.out⟩⟩
    case hbody =>
      rintro l' pre ⟨⟨ya, yn, yc⟩, yf, ym⟩ act A ⟨z, rfl, ⟨sv, h1, h2, h3, h4, h5⟩, h6, h7, ⟨y, h8, h9, h10, h11, h12⟩⟩
      obtain ⟨k, Hk⟩ : ∃ k, Hid (pre.length = k) := ⟨_, ⟨rfl⟩⟩
      have Hk1 : Hid ((pre ++ [(((ya, yn, yc), yf, ym) : Yp)]).length = k + 1) := ⟨by rw [List.length_append, Hk.out]; rfl⟩
      simp only at h9 h10 h11 h12
      rw [Hk.out] at h2 h8
      have HTk : Hid (lays ((pl0 p).take (k + 1)) = lays ((pl0 p).take k) ++ lay y) := ⟨lays_take h8⟩
      have hTl := lays_take_len p k
      rw [Hn.out] at hTl
      have hfy := HFine.out k y h8
      have hkd := hfy.kind
      subst h11 h12
      have HY9 := Hid.mk h9
      have hyl : (lay y).length ≤ 200 ∧ 0 < (lay y).length := by
        unfold lay
        rcases hkd with hh | hh
        · rw [if_pos hh.1]; simp; omega
        · rw [if_neg (by simp [hh.1])]
          have := numB_len8 y.far (by omega)
          simp; omega
      obtain ⟨T, HT⟩ : ∃ T, Hid (lays ((pl0 p).take k) = T) := ⟨_, ⟨rfl⟩⟩
      rw [HT.out] at h2 HTk hTl
      obtain ⟨sa, sc, esv, _⟩ := h2.shape
      obtain ⟨sn, Hsn⟩ : ∃ k, Hid (T.length = k) := ⟨_, ⟨rfl⟩⟩
      rw [Hsn.out] at esv hTl
      subst esv
      have H1 := Hid.mk h1
      have H2 := Hid.mk h2
      have H3 := Hid.mk h3
      have H4 := Hid.mk h4
      have H5 := Hid.mk h5
      have H6 := Hid.mk h6
      have H7 := Hid.mk h7
      have t15 := fun (B : World) (hB : Below A.heap.size A B) => bytes15 (w := B) ya yn yc y.far y.n y.pl (h9.stay (fun _ k _ o ho => (hB.block k (Array.getElem?_eq_some_iff.1 ho).1).trans ho)) (by rcases hkd with hh | hh; omega; rw [hh.1]; simp) (by omega) (by omega)
      have HT15 := Hid.mk t15
      have HCz : Hid (∀ w' : World, w'.heap[z]? = some (.cells #[.slice ya yn yc, .int .i64 (y.far : Int), .int .i64 (y.n : Int)] 38 (0, 0)) → w'.cell? ⟨z, 0, none⟩ = some (.slice ya yn yc) ∧ w'.cell? ⟨z, 1, none⟩ = some (.int .i64 (y.far : Int)) ∧ w'.cell? ⟨z, 2, none⟩ = some (.int .i64 (y.n : Int))) := ⟨fun w' h => ⟨by rw [cell_of_row _ _ _ _ _ _ h]; rfl, by rw [cell_of_row _ _ _ _ _ _ h]; rfl, by rw [cell_of_row _ _ _ _ _ _ h]; rfl⟩⟩
      have HBx : Hid (∀ B : World, Below A.heap.size A B → B.heap[b0]? = some (.cells #[.slice sa sn sc] 22 (0, 0)) ∧ B.cell? ⟨b0, 0, none⟩ = some (.slice sa sn sc) ∧ B.heap[z]? = some (.cells #[.slice ya yn yc, .int .i64 (y.far : Int), .int .i64 (y.n : Int)] 38 (0, 0)) ∧ OwnY B (b0 + 2) (.slice sa sn sc) T) := ⟨fun B hB => by
        have e1 := (hB.block b0 (Array.getElem?_eq_some_iff.1 H1.out).1).trans H1.out
        have e2 := (hB.block z (Array.getElem?_eq_some_iff.1 H6.out).1).trans H6.out
        exact ⟨e1, by rw [cell_of_row _ _ _ _ _ _ e1]; rfl, e2, H2.out.kc (n := 0) (Kg.below hB)⟩⟩
      have HFin : Hid (∀ (V V2 : World) (v' : Value), Below A.heap.size A V → OwnY V2 (b0 + 2) v' (T ++ lay y) → Chg (ob (.slice sa sn sc)) V V2 → V2.heap[b0]? = some (.cells #[.slice sa sn sc] 22 (0, 0)) ∧ V2.heap[z]? = some (.cells #[.slice ya yn yc, .int .i64 (y.far : Int), .int .i64 (y.n : Int)] 38 (0, 0)) ∧ (V2.setCell ⟨b0, 0, none⟩ v').heap[z]? = some (.cells #[.slice ya yn yc, .int .i64 (y.far : Int), .int .i64 (y.n : Int)] 38 (0, 0)) ∧ KeepsFrom w3.heap.size A (V2.setCell ⟨b0, 0, none⟩ v') ∧ Kz (b0 + 4) b0 [b0] A (V2.setCell ⟨b0, 0, none⟩ v') ∧ InvP b0 (.slice va n vc) p w (k + 1) (V2.setCell ⟨b0, 0, none⟩ v')) := ⟨fun V V2 v' hV ho hc => by
        have hown := (HBx.out V hV).2.2.2
        have hob : ∀ g ∈ ob (.slice sa sn sc), b0 + 2 ≤ g ∧ ∃ cs, V.heap[g]? = some (.cells cs 5 (0, 0)) := fun g hg => ⟨(World.ownsRow.lt hown g (mem_ob.1 hg)).1, own_ty hown (mem_ob.1 hg)⟩
        have hs3 := HS3.out
        have hz0 : z ∉ ob (.slice sa sn sc) := fun hm => by
          obtain ⟨cs, hcs⟩ := (hob z hm).2
          rw [(HBx.out V hV).2.2.1] at hcs
          cases hcs
        have e1 := (hc.block b0 (Array.getElem?_eq_some_iff.1 (HBx.out V hV).1).1 (fun hm => by have := (hob b0 hm).1; omega)).trans (HBx.out V hV).1
        have e2 := (hc.block z (Array.getElem?_eq_some_iff.1 (HBx.out V hV).2.2.1).1 hz0).trans (HBx.out V hV).2.2.1
        have hz7 := H7.out
        have hcs := (Chg.refl [b0] V2).setCell (a := ⟨b0, 0, none⟩) (.inl (by simp)) v'
        have hne : ∀ k, k ≠ b0 → (V2.setCell ⟨b0, 0, none⟩ v').heap[k]? = V2.heap[k]? := fun k hk => heap_setCell_other V2 ⟨b0, 0, none⟩ k _ hk
        have hkz : Kz (b0 + 2) b0 [b0] A (V2.setCell ⟨b0, 0, none⟩ v') := by
          refine ((Kg.below hV : Kz (b0 + 2) b0 [b0] A V).trans (Kg.chg hc (fun g o hg hk hm => ?_))).trans (Kg.chg hcs (fun g o hg hk hm => ?_))
          · obtain ⟨cs, hcs⟩ := (hob g hm).2
            have hge := (hob g hm).1
            rw [hg] at hcs
            cases hcs
            rcases hk with ⟨_, hk | hk⟩ | ⟨_, hk⟩
            · omega
            · cases hk
            · cases hk
          · simp at hm
            subst hm
            rcases hk with ⟨hk, _⟩ | ⟨hk, _⟩
            · exact hk (by simp)
            · omega
        have e3 := (hV.block (b0 + 1) (Array.getElem?_eq_some_iff.1 H3.out).1).trans H3.out
        have e4 := (hc.block (b0 + 1) (Array.getElem?_eq_some_iff.1 e3).1 (fun hm => by have := (hob _ hm).1; omega)).trans e3
        refine ⟨e1, e2, (hne z (by omega)).trans e2, hkz.from (by omega), hkz.mono (fun g o _ hk => by
          rcases hk with hk | ⟨hk, hk2⟩
          · exact .inl hk
          · exact .inr ⟨by omega, hk2⟩), v', heap_setCell_same V2 b0 0 _ 22 v' e1, ?_, (hne _ (by omega)).trans e4, ?_, Nat.le_trans H5.out hkz.1⟩
        · rw [HTk.out]
          exact own_stay ho (fun g hg o ho' => (hne g (by have := (World.ownsRow.lt ho g (mem_ob.1 hg)).1; omega)).trans ho')
        · have h5 := H5.out
          have hvs := hV.size
          have hcz := hc.size
          exact (H4.out.trans (hV.mono (by omega))).trans ((hc.below (by omega) (fun g hg => by have := (hob g hg).1; omega)).trans (hcs.below (by omega) (by simp)))⟩
      have hS0 : A.drew.heap[z]? = some (.cells #[.slice ya yn yc, .int .i64 (y.far : Int), .int .i64 (y.n : Int)] 38 (0, 0)) := h6
      have HD : Hid (Below A.heap.size A A.drew) := ⟨(Below.refl _ A).drew⟩
      clear h1 h2 h3 h4 h5 h6 h7 h8 h9 t15 hfy hkd h10
      simp only [pcv]
      gi_wp2_with fail
      refine wpIn_norm ?_
      refine HI.region (S := fun w' => w'.heap[z]? = some (.cells #[.slice ya yn yc, .int .i64 (y.far : Int), .int .i64 (y.n : Int)] 38 (0, 0))) (by kernel_rfl) hS0 (fun hS => ?_)
      clear hS0
      refine HI.take (i := 1) (v := .agg #[.slice ya yn yc, .int .i64 (y.far : Int), .int .i64 (y.n : Int)]) rfl (by kernel_rfl) (by kernel_rfl) (by kernel_rfl) (by kernel_rfl) (fun _ _ _ h => h) (Or.inl ⟨by kernel_rfl, fun wx hx => by obtain ⟨k0, k1, k2⟩ := HCz.out wx hx; go_simp⟩) hS ?_
      refine HI.two (i := 0) (j := 2) rfl rfl (by kernel_rfl) (fun Kq hK => ?_) (fun Kq hK => ?_)
      · have k0 := (HBx.out A.drew HD.out).2.1
        go_simp
        refine hK.out _ _ hS (fun hS => ?_)
        clear hK
        refine HI.lone (i := 2) rfl (by kernel_rfl) (fun Kq hK => ?_)
        go_simp
        refine ⟨trivial, ?_⟩
        refine ((callsIn_wide.2 (HT15.out _ HD.out)).inRound l').mono ?_
        rintro e V ⟨xa, xn, xc, rfl, hO, hbV⟩
        have hV : Below A.heap.size A V := HD.out.trans hbV
        refine hK.out _ _ (HBx.out V hV).2.2.1 (fun hS => ?_)
        clear hK k0
        refine HI.lone (i := 3) rfl (by kernel_rfl) (fun Kq hK => ?_)
        refine rdy_of (by kernel_rfl) ?_
        refine opi_appY (.tmp 12) (.tmp 14) rfl (by kernel_rfl) (by kernel_rfl) (HBx.out V hV).2.2.2 hO.rd (by show 0 < (lay y).length; omega) (by show T.length + (lay y).length ≤ 1000000000000; have := Hsn.out; omega) (by have := H5.out; have := hV.size; omega) ?_
        intro v' V2 hO2 hG2
        have hf := HFin.out V V2 v' hV hO2 hG2
        refine hK.out _ _ hf.2.1 (fun hS => ?_)
        clear hK
        have f0 : V2.frozen? ⟨b0, 0, none⟩ = false := frozen_of_row V2 b0 0 _ 22 hf.1
        have g0 : V2.cell? ⟨b0, 0, none⟩ = some (.slice sa sn sc) := by rw [cell_of_row _ _ _ _ _ _ hf.1]; rfl
        obtain ⟨va2, vc2, ev2, _⟩ := hO2.shape
        obtain ⟨vn2, Hvn2⟩ : ∃ k, Hid ((T ++ lay y).length = k) := ⟨_, ⟨rfl⟩⟩
        rw [Hvn2.out] at ev2
        subst ev2
        refine HI.lone (i := 4) rfl (by kernel_rfl) (fun Kq hK => ?_)
        go_simp
        refine hK.out _ _ hf.2.2.1 (fun hS => ?_)
        clear hK
        refine HI.done (by kernel_rfl) ?_
        unfold only
        exact ⟨rfl, hf.2.2.2.1, hf.2.2.2.2.1, by show InvP _ _ _ _ _ _; rw [Hk1.out]; exact hf.2.2.2.2.2⟩
      · go_simp
        refine ⟨trivial, ?_⟩
        refine ((callsIn_wide.2 (HT15.out _ HD.out)).inRound l').mono ?_
        rintro e V ⟨xa, xn, xc, rfl, hO, hbV⟩
        have hV : Below A.heap.size A V := HD.out.trans hbV
        refine hK.out _ _ (HBx.out V hV).2.2.1 (fun hS => ?_)
        clear hK
        have k0 := (HBx.out V hV).2.1
        refine HI.lone (i := 0) rfl (by kernel_rfl) (fun Kq hK => ?_)
        go_simp
        refine hK.out _ _ hS (fun hS => ?_)
        clear hK k0
        refine HI.lone (i := 3) rfl (by kernel_rfl) (fun Kq hK => ?_)
        refine rdy_of (by kernel_rfl) ?_
        refine opi_appY (.tmp 12) (.tmp 14) rfl (by kernel_rfl) (by kernel_rfl) (HBx.out V hV).2.2.2 hO.rd (by show 0 < (lay y).length; omega) (by show T.length + (lay y).length ≤ 1000000000000; have := Hsn.out; omega) (by have := H5.out; have := hV.size; omega) ?_
        intro v' V2 hO2 hG2
        have hf := HFin.out V V2 v' hV hO2 hG2
        refine hK.out _ _ hf.2.1 (fun hS => ?_)
        clear hK
        have f0 : V2.frozen? ⟨b0, 0, none⟩ = false := frozen_of_row V2 b0 0 _ 22 hf.1
        have g0 : V2.cell? ⟨b0, 0, none⟩ = some (.slice sa sn sc) := by rw [cell_of_row _ _ _ _ _ _ hf.1]; rfl
        obtain ⟨va2, vc2, ev2, _⟩ := hO2.shape
        obtain ⟨vn2, Hvn2⟩ : ∃ k, Hid ((T ++ lay y).length = k) := ⟨_, ⟨rfl⟩⟩
        rw [Hvn2.out] at ev2
        subst ev2
        refine HI.lone (i := 4) rfl (by kernel_rfl) (fun Kq hK => ?_)
        go_simp
        refine hK.out _ _ hf.2.2.1 (fun hS => ?_)
        clear hK
        refine HI.done (by kernel_rfl) ?_
        unfold only
        exact ⟨rfl, hf.2.2.2.1, hf.2.2.2.2.1, by show InvP _ _ _ _ _ _; rw [Hk1.out]; exact hf.2.2.2.2.2⟩
    case hdone =>
      rintro D xs A hD hxs ⟨sv, h1, h2, h3, h4, h5⟩ hKD
      rw [hxs, List.take_length] at h2
      obtain ⟨sa, sc, esv, _⟩ := h2.shape
      obtain ⟨sn, Hsn⟩ : ∃ k, Hid ((lays (pl0 p)).length = k) := ⟨_, ⟨rfl⟩⟩
      rw [Hsn.out] at esv
      subst esv
      have k0 : A.cell? ⟨b0, 0, none⟩ = some (.slice sa sn sc) := by rw [cell_of_row _ _ _ _ _ _ h1]; rfl
      have H2 := Hid.mk h2
      have H4 := Hid.mk h4
      have H5 := Hid.mk h5
      have HKD := Hid.mk hKD
      clear h1 h2 h3 h4 hKD
      gi_wp2
      have hs3 := HS3.out
      refine ⟨by simp, .inl ⟨_, _, rfl, run_takeDeferred HKD.out, ?_⟩⟩
      have hc := chg_put A D (.deferred none)
      refine ⟨_, results_tmp2 rfl _ _ _, ⟨sa, sn, sc, 0, _, rfl, OwnY.put (own_base H2.out (fun g hg => by have := (World.ownsRow.lt H2.out g hg).1; have := Hb.out; omega)) ⟨_, HKD.out, rfl⟩, .inr ⟨by rw [Hn.out]; omega, rfl, rfl⟩⟩, by have h5 := H5.out; rw [Hb.out]; exact H4.out.trans (hc.below (by omega) (by simp; omega))⟩
end
end Go.Proofs.Ytoneepoaodoijaa
