/- The program's Clear and Fork. -/
import Derived.Test.YtiloclekhddkfabDoorB8
import Derived.Lib.SliceRun
namespace Go.Proofs.YtiloclekhddkfabDoor
open Go.RowKit
theorem zero73 (w : World) : (zeroValue 73).run Tryd.prog w = .ok (.int .u64 0) w := by kernel_rfl
theorem uv_one (l : List Nat) : ∀ u ∈ uv l, u.oneCell' = true := by
  intro u hu
  simp [uv] at hu
  obtain ⟨z, _, rfl⟩ := hu
  rfl
theorem set_take (cs : List Nat) (o : Nat) (h : o < cs.length) : (cs.set o 0).take (o + 1) = cs.take o ++ [0] := by
  apply List.ext_getElem?
  intro i
  simp only [List.getElem?_take, List.getElem?_append, List.getElem?_set, List.length_take]
  grind
section
variable {w w' : World} {p c cap : Nat} {size ways : Int} {cs : List Nat}
theorem FlAt.sets : ∀ (k o : Nat) (w : World) (cs : List Nat), FlAt w p c cap size ways cs → o + k = cs.length → FlAt (w.setCells c o (List.replicate k (.int .u64 0))) p c cap size ways (cs.take o ++ List.replicate k 0) ∧ Chg [c] w (w.setCells c o (List.replicate k (.int .u64 0)))
  | 0, o, w, cs, h, e => by
    simp only [List.replicate_zero, World.setCells, List.append_nil]
    rw [List.take_of_length_le (by omega)]
    exact ⟨h, Chg.refl _ _⟩
  | k + 1, o, w, cs, h, e => by
    have z := FlAt.sets k (o + 1) (w.setCell ⟨c, o, none⟩ (.int .u64 0)) (cs.set o 0) (h.set o 0) (by rw [List.length_set]; omega)
    rw [set_take cs o (by omega)] at z
    simp only [List.replicate_succ, World.setCells]
    refine ⟨?_, ((Chg.refl [c] w).setCell (.inl (by simp)) _).trans z.2⟩
    have := z.1
    simpa using this
theorem wp_appU {ops : Array Oper} {rest : List Oper} {o : Oper} {a : Act} {Q : Exit → Act → World → Prop} (hgd : o.guard = none) (s x : Operand)
    (ho : o.op = .call { callee := .builtin .append, args := #[s, x], argTypes := #[59, 59] })
    {base : Nat} {v : Value} {ad : Addr} {n cp : Nat} {ys : List Nat} (hs : a.eval s = v) (hown : w.ownsRow base 73 1 v 0 [])
    (hx : a.eval x = .slice (some ad) n cp) (hn : ys.length = n) (hr : ∀ j u, (uv ys)[j]? = some u → w.cell? (ad.add j) = some u) (hlen : n ≤ 1000000) (hbase : base ≤ w.heap.size)
    (h : ∀ v' w', w'.ownsRow base 73 1 v' n (uv ys) → Chg (ob v) w w' → wpList Tryd.prog ops Q rest (a.put o.dst v') w') :
    wpList Tryd.prog ops Q (o :: rest) a w := by
  obtain ⟨i0, hi, hz0, hz1, hz2⟩ := info_parts' infoU
  obtain ⟨v', w', hrun, h2, h3, h4⟩ := run_append_at (P := Tryd.prog) w base 59 o.type 73 i0 (.int .u64 0) 8 Tryd.underlying59 hi hz0 hz1 hz2 rfl v 0 _ hown ad n cp (uv ys) (by rw [uv_len]; exact hn) hr (uv_one ys) (by unfold maxLen; omega) (by omega) hbase
  refine wpList_plain hgd fun K hK => ?_
  unfold Oper.wp execOp
  simp only [ho, resolve, invoke, builtin, Sem.run_bind, Sem.run_pure, Result.andThen_ok, List.map_toArray, List.map_cons, List.map_nil, hs, hx, hrun]
  exact hK _ _ (h v' w' (by simpa using h2) (Chg.ofGrown h3))
end
section
variable {w : World}
set_option maxHeartbeats 2000000 in
set_option maxRecDepth 100000 in
theorem clear_any {p c cap : Nat} {size ways : Int} {cs : List Nat} (h : FlAt w p c cap size ways cs) (hl : 0 < cs.length) : Calls Tryd.prog 25 #[.pointer (some ⟨p, 0, none⟩)] w fun e w' => e = .returned (.int .i64 0) ∧ FlAt w' p c cap size ways (List.replicate cs.length 0) ∧ Chg [c] w w' := by
  have c2 := h.c2
  have hclr := fun ty => Go.Lib.run_clear_slice (P := Tryd.prog) w 59 73 ty (.int .u64 0) Tryd.underlying59 zero73 rfl rfl c 0 cs.length cap hl (fun j hj => by rw [Nat.zero_add, h.cell hj]; rfl) (fun j _ => by rw [Nat.zero_add]; exact h.fz j)
  have HZ := Hid.mk (FlAt.sets cs.length 0 w cs h (by omega))
  simp only [List.take_zero, List.nil_append] at HZ
  generalize cs.length = n at c2 hclr HZ
  obtain ⟨w2, Hw2⟩ : ∃ x, x = w.setCells c 0 (List.replicate n (.int .u64 0)) := ⟨_, rfl⟩
  rw [← Hw2] at hclr HZ
  clear h hl Hw2
  go_enter Tryd.func25, Tryd.ntmps25
  go_wp2_with fail
  go_ret
  exact ⟨rfl, HZ.out.1, HZ.out.2⟩
set_option maxHeartbeats 2000000 in
set_option maxRecDepth 100000 in
theorem clone_any {ad : Addr} {n cp : Nat} {ys : List Nat} (hn : ys.length = n) (hr : ∀ j u, (uv ys)[j]? = some u → w.cell? (ad.add j) = some u) (hlen : n ≤ 1000000) : Calls Tryd.prog 36 #[.slice (some ad) n cp] w fun e w' => ∃ v, e = .returned v ∧ w'.ownsRow w.heap.size 73 1 v n (uv ys) ∧ Below w.heap.size w w' := by
  have HN := Hid.mk hn
  have HR := Hid.mk hr
  have HO : Hid ((w.alloc (.cells #[] 73)).ownsRow w.heap.size 73 1 (.slice (some ⟨w.heap.size, 0, none⟩) 0 0) 0 []) := ⟨⟨rfl, .inr ⟨w.heap.size, 0, #[], rfl, Nat.le_refl _, heap_alloc_new w _, Nat.le_refl _, by decide, rfl, rfl⟩⟩⟩
  have HB1 : Hid (Below w.heap.size w (w.alloc (.cells #[] 73))) := ⟨(Below.refl _ w).alloc (Nat.le_refl _) _⟩
  have HR1 : Hid (∀ j u, (uv ys)[j]? = some u → (w.alloc (.cells #[] 73)).cell? (ad.add j) = some u) := ⟨fun j u hj => Go.Lib.cell?_alloc_some _ (hr j u hj)⟩
  have heq : (binOp .eql 59 (.slice (some ad) n cp) (.slice none 0 0)).run Tryd.prog w = .ok (.bool false) w := Go.Lib.run_eql_slice_nil w 59 73 (some ad) n cp 0 0 Tryd.underlying59
  clear hn hr
  go_enter Tryd.func36, Tryd.ntmps36
  go_wp2_with (refine wp_appU (ad := ad) (n := n) (cp := cp) (v := .slice (some ⟨w.heap.size, 0, none⟩) 0 0) rfl (.tmp 5) (.tmp 6) rfl (by kernel_rfl) HO.out (by kernel_rfl) HN.out HR1.out hlen HB1.out.size ?_; intro v2 w2 hO2 hC2; have HO2 := Hid.mk hO2; have HC2 : Hid (Chg [w.heap.size] (w.alloc (.cells #[] 73)) w2) := ⟨by simpa [ob, Value.ownBlock] using hC2⟩; clear hO2 hC2)
  go_ret
  exact ⟨_, rfl, HO2.out, HB1.out.trans (HC2.out.below HB1.out.size (by simp))⟩
theorem own_shape {base n : Nat} {v : Value} {xs : List Value} (h : w.ownsRow base 73 1 v n xs) (hn : 0 < n) : ∃ c3 cap3, v = .slice (some ⟨c3, 0, none⟩) n cap3 ∧ base ≤ c3 := by
  rcases h.2 with ⟨_, z⟩ | ⟨g, cp, cur, e, hb, _⟩
  · omega
  · exact ⟨g, cp, e, hb⟩
theorem info61 : (Tryd.prog.info? 61).map (·.size) = some 3 := by kernel_rfl
set_option maxHeartbeats 2000000 in
set_option maxRecDepth 100000 in
theorem fork_any {p c cap : Nat} {size ways : Int} {cs : List Nat} (h : FlAt w p c cap size ways cs) (hl : 0 < cs.length) (hl2 : cs.length ≤ 1024) : Calls Tryd.prog 22 #[.pointer (some ⟨p, 0, none⟩)] w fun e w' => e = .returned (.pointer (some ⟨w.heap.size, 0, none⟩)) ∧ (∃ c2 cap2, w.heap.size < c2 ∧ FlAt w' w.heap.size c2 cap2 size ways cs) ∧ Below w.heap.size w w' := by
  obtain ⟨n, Hn⟩ : ∃ n, Hid (cs.length = n) := ⟨_, ⟨rfl⟩⟩
  have H := Hid.mk h
  have Hrow : Hid (w.heap[p]? = some (.cells #[.int .i64 size, .int .i64 ways, .slice (some ⟨c, 0, none⟩) n cap] 61 (0, 0))) := ⟨by rw [← Hn.out]; exact h.row⟩
  have hi61 : (Tryd.prog.info? 61).map (·.size) = some (#[.int .i64 size, .int .i64 ways, .slice (some ⟨c, 0, none⟩) n cap] : Array Value).size := info61
  obtain ⟨W, HW⟩ : ∃ W, Hid (w.alloc (.cells #[.int .i64 size, .int .i64 ways, .slice (some ⟨c, 0, none⟩) n cap] 61) = W) := ⟨_, ⟨rfl⟩⟩
  have HB : Hid (Below w.heap.size w W) := ⟨by rw [← HW.out]; exact (Below.refl _ w).alloc (Nat.le_refl _) _⟩
  have HF : Hid (FlAt W p c cap size ways cs) := ⟨h.far (X := []) (Chg.ofBelow HB.out) (by simp) (by simp)⟩
  have HWr : Hid (W.heap[w.heap.size]? = some (.cells #[.int .i64 size, .int .i64 ways, .slice (some ⟨c, 0, none⟩) n cap] 61 (0, 0))) := ⟨by rw [← HW.out]; exact heap_alloc_new w _⟩
  have hc2 : W.cell? ⟨p, 2, none⟩ = some (.slice (some ⟨c, 0, none⟩) n cap) := by rw [← Hn.out]; exact HF.out.c2
  have t1 := clone_any (w := W) (ad := ⟨c, 0, none⟩) (n := n) (cp := cap) (ys := cs) Hn.out (fun j u hj => by
    have hj2 : j < cs.length := by
      rcases Nat.lt_or_ge j cs.length with z | z
      · exact z
      · rw [List.getElem?_eq_none (by rw [uv_len]; exact z)] at hj; cases hj
    rw [uv_get cs hj2] at hj
    have := HF.out.cell hj2
    have ea : Addr.add ⟨c, 0, none⟩ j = ⟨c, j, none⟩ := by unfold Addr.add; split <;> simp_all
    rw [ea, this]; exact hj) (by have := Hn.out; omega)
  have hn0 : 0 < n := by have := Hn.out; omega
  clear h hl hl2
  go_enter Tryd.func22, Tryd.ntmps22
  go_upto_region 4 with (refine wpList_load_row rfl 61 (.tmp 7) rfl p rfl 61 #[.int .i64 size, .int .i64 ways, .slice (some ⟨c, 0, none⟩) n cap] (0, 0) _ Hrow.out Tryd.underlying61 rfl hi61 ?_)
  rw [HW.out]
  obtain ⟨q, Hq⟩ : ∃ q, Hid (w.heap.size = q) := ⟨_, ⟨rfl⟩⟩
  rw [Hq.out] at HWr HB ⊢
  go_wp2_with (go_at_call 36; refine t1.mono ?_; rintro e w3 ⟨v3, rfl, hO3, hB3⟩; have HO3 := Hid.mk hO3; have HB3 := Hid.mk hB3; clear hO3 hB3; obtain ⟨c3, cap3, ev, hcl⟩ : ∃ c3 cap3, v3 = .slice (some ⟨c3, 0, none⟩) n cap3 ∧ W.heap.size ≤ c3 := own_shape HO3.out hn0; subst ev; have HR3 : Hid (w3.heap[q]? = some (.cells #[.int .i64 size, .int .i64 ways, .slice (some ⟨c, 0, none⟩) n cap] 61 (0, 0))) := ⟨((Chg.ofBelow (X := []) HB3.out).block q (Array.getElem?_eq_some_iff.1 HWr.out).1 (by simp)).trans HWr.out⟩; have hfz := frozen_of_row w3 q 2 _ 61 HR3.out; have hce : w3.cell? ⟨q, 2, none⟩ = some (.slice (some ⟨c, 0, none⟩) n cap) := (by rw [cell_of_row _ _ _ _ _ _ HR3.out]; rfl))
  have Hql : Hid (q < W.heap.size) := ⟨(Array.getElem?_eq_some_iff.1 HWr.out).1⟩
  have HZ : Hid (FlAt (w3.setCell ⟨q, 2, none⟩ (.slice (some ⟨c3, 0, none⟩) n cap3)) q c3 cap3 size ways cs) := ⟨⟨by rw [Hn.out]; exact heap_setCell_same w3 q 2 _ 61 _ HR3.out, by have := Hql.out; omega, by rw [Hn.out]; exact own_base (own_far HO3.out ((Chg.refl [q] w3).setCell (.inl (by simp)) _) (fun g hg => by simp [Value.ownBlock] at hg; have := Hql.out; simp; omega)) (fun _ _ => Nat.zero_le _)⟩⟩
  have HBz : Hid (Below q w (w3.setCell ⟨q, 2, none⟩ (.slice (some ⟨c3, 0, none⟩) n cap3))) := ⟨(HB.out.trans (HB3.out.mono (Nat.le_of_lt Hql.out))).trans (((Chg.refl [q] w3).setCell (.inl (by simp)) _).below (by have := HB3.out.size; have := Hql.out; omega) (by simp))⟩
  go_ret
  exact ⟨by rw [Hq.out]; rfl, ⟨c3, cap3, by have := Hql.out; have := Hq.out; omega, by rw [Hq.out]; exact HZ.out⟩, by rw [Hq.out]; exact HBz.out⟩
end
end Go.Proofs.YtiloclekhddkfabDoor
