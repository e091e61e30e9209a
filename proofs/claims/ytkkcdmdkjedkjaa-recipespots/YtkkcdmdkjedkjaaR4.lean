/- The program's Clone, Refs, New. -/
import Derived.Test.YtkkcdmdkjedkjaaR3
import Derived.Lib.SliceRun
namespace Go.Proofs.Ytkkcdmdkjedkjaa
open Go.RowKit Go.Lib

section
variable {w : World} {o : Oper} {a : Act} {K : Act → World → Prop} {Q : Exit → Act → World → Prop}
theorem op_appI (s x : Operand)
    (ho : o.op = .call { callee := .builtin .append, args := #[s, x], argTypes := #[66, 66] })
    {base : Nat} {v u : Value} {xs ys : List Int} (hs : a.eval s = v) (hown : OwnI w base v xs)
    (hx : a.eval x = u) (hu : RdI w u ys) (hlen : xs.length + ys.length ≤ 1000000000000) (hbase : base ≤ w.heap.size)
    (h : ∀ v' w', OwnI w' base v' (xs ++ ys) → Chg (ob v) w w' → (v'.ownBlock = v.ownBlock ∨ v'.ownBlock = some w.heap.size) → K (a.put o.dst v') w') :
    Oper.wp Try.prog o a w K Q := by
  obtain ⟨i0, hi, hz0, hz1, hz2⟩ := info_parts' infoInt
  obtain ⟨ao, cap, rfl, hl, hm, hn, hc⟩ := hu
  cases ao with
  | none =>
    have hcap := hn rfl
    subst hcap
    have hy : ys = [] := by rw [iv_len] at hl; exact List.length_eq_zero_iff.1 (by omega)
    subst hy
    have hrun := run_append_owned_none (P := Try.prog) (w := w) base 66 o.type 3 i0 1 Try.underlying66 hi v xs.length _ hown
    unfold Oper.wp
    simp [execOp, ho, resolve, invoke, builtin, hs, hx, hrun, Result.andThen, iv_len]
    exact h v w (by simpa [OwnI] using hown) (Chg.refl _ _) (.inl rfl)
  | some ad =>
    rw [iv_len] at hx hl hc
    obtain ⟨v', w', hr, h2, h3, h4⟩ := run_append_at (P := Try.prog) w base 66 o.type 3 i0 (.int .i64 0) 8 Try.underlying66 hi hz0 hz1 hz2 rfl v xs.length _ hown ad ys.length cap (iv ys) (iv_len ys) (by
      intro j u hj
      have hjl : j < ys.length := by
        rcases Nat.lt_or_ge j ys.length with h | h
        · exact h
        · rw [List.getElem?_eq_none (by rw [iv_len]; exact h)] at hj; cases hj
      rw [hc ad rfl j hjl]
      exact hj) (iv_one ys) (by unfold maxLen; omega) (by omega) hbase
    unfold Oper.wp execOp
    simp only [ho, resolve, invoke, builtin, Sem.run_bind, Sem.run_pure, Result.andThen_ok, List.map_toArray, List.map_cons, List.map_nil, hs, hx, hr]
    exact h v' w' (by unfold OwnI; rw [iv_app, List.length_append]; exact h2) (Chg.ofGrown h3) h4
theorem op_makeI (x y : Operand) (ho : o.op = .makeSlice 66 x y) (c : Nat) (hx : a.eval x = .int .i64 0) (hy : a.eval y = .int .i64 (c : Int)) (hc : c ≤ 10000000000000)
    (h : ∀ w', OwnI w' w.heap.size (.slice (some ⟨w.heap.size, 0, none⟩) 0 c) [] → Below w.heap.size w w' → w'.heap.size = w.heap.size + 1 → K (a.put o.dst (.slice (some ⟨w.heap.size, 0, none⟩) 0 c)) w') : Oper.wp Try.prog o a w K Q := by
  obtain ⟨i, hi, hz, hs, hb⟩ := info_parts' infoInt
  have h63' : (c : Int) ≤ 9223372036854775807 := by omega
  have hb' : (i.bytes : Int) * (c : Int) ≤ 281474976710656 := by rw [hb]; omega
  have hr := run_make (P := Try.prog) w 66 3 i _ Try.underlying66 hi hz .i64 .i64 0 c (Int.le_refl _) (by omega) hb' h63'
  simp only [Int.toNat_zero, Int.toNat_natCast] at hr
  unfold Oper.wp execOp
  simp only [ho, hx, hy, Sem.run_bind, hr, Result.andThen_ok]
  refine h _ ?_ ((Below.refl _ w).alloc (Nat.le_refl _) _) (by simp)
  have := World.ownsRow_made (e := 3) (size := i.size) w (madeCells (Value.cells (.int .i64 0)) (c * i.size)) c (Nat.le_refl _) (by unfold maxLen; omega) (size_madeCells _ _)
  rw [hs] at this
  simpa [OwnI, iv, hs] using this
end
section
variable {w : World}
set_option maxHeartbeats 4000000 in
set_option maxRecDepth 100000 in
theorem clone_any (v : Value) (L : List Rf) (h : RdR w v L) (hL : L.length ≤ 2513169434843) : Calls Try.prog 31 #[v] w fun e w' => ∃ v', e = .returned v' ∧ OwnE rc 35 56 w' w.heap.size v' L ∧ Below w.heap.size w w' := by
  have H := Hid.mk h
  obtain ⟨av, cv, rfl, hcv, hcm, hcn⟩ := h.shape
  cases av with
  | none =>
    have hc0 := hcn rfl
    subst hc0
    have hl0 : L = [] := List.length_eq_zero_iff.1 (by omega)
    subst hl0
    clear h
    have heq : (binOp .eql 22 (.slice none 0 0) (.slice none 0 0)).run Try.prog w = .ok (.bool true) w := Go.Lib.run_eql_slice_nil w 22 56 none 0 0 0 0 Try.underlying22
    simp only [List.length_nil]
    go_enter Try.func31, Try.ntmps31
    go_wp2_with fail
    go_ret
    exact ⟨_, rfl, OwnE.nil _ _ _ _ _, Below.refl _ _⟩
  | some ad =>
    obtain ⟨n, Hn⟩ : ∃ n, Hid (L.length = n) := ⟨_, ⟨rfl⟩⟩
    rw [Hn.out] at H hcv ⊢
    have HE : Hid (RdE rc 35 r0 (w.alloc (.cells #[] 56)) (.slice (some ad) n cv) L) := ⟨(H.out.below ((Below.refl _ w).alloc (Nat.le_refl _) _)).toE⟩
    have HO : Hid (OwnE rc 35 56 (w.alloc (.cells #[] 56)) w.heap.size (.slice (some ⟨w.heap.size, 0, none⟩) 0 0) []) := ⟨OwnE.none rc 35 56 w⟩
    have hl1 : (([] : List Rf).length + L.length) * 56 ≤ 140737488355328 := by simp; omega
    have hl2 : ([] : List Rf).length + L.length ≤ maxLen := by unfold maxLen; simp; omega
    have hl3 : w.heap.size ≤ (w.alloc (.cells #[] 56)).heap.size := by simp
    have heq : (binOp .eql 22 (.slice (some ad) n cv) (.slice none 0 0)).run Try.prog w = .ok (.bool false) w := Go.Lib.run_eql_slice_nil w 22 56 (some ad) n cv 0 0 Try.underlying22
    clear h
    go_enter Try.func31, Try.ntmps31
    go_wp2_with (at_builtin; refine wp_appE (f := rc) (d := r0) eltR rfl (.tmp 5) (.tmp 6) rfl rfl HO.out rfl HE.out hl1 hl2 hl3 ?_; intro v3 w3 hO3 hG3 hV3)
    go_ret
    refine ⟨_, rfl, by simpa using hO3, ?_⟩
    replace hG3 : Chg (ob (.slice (some ⟨w.heap.size, 0, none⟩) 0 0)) (w.alloc (.cells #[] 56)) w3 := hG3
    exact ((Below.refl _ w).alloc (Nat.le_refl _) _).trans (hG3.below hl3 (by intro x hx; have e := mem_ob.1 hx; simp [Value.ownBlock] at e; omega))
theorem refsNil_any : Calls Try.prog 14 #[.pointer none] w fun e w' => e = .returned (.slice none 0 0) ∧ w = w' := by
  go_enter Try.func14, Try.ntmps14
  go_wp2_with fail
  go_ret
  exact ⟨rfl, rfl⟩
set_option maxHeartbeats 4000000 in
set_option maxRecDepth 100000 in
theorem refs_any {p : Nat} {L : List Rf} (h : Rec w p L) (hL : L.length ≤ 256) : Calls Try.prog 14 #[.pointer (some ⟨p, 0, none⟩)] w fun e w' => ∃ v', e = .returned v' ∧ OwnE rc 35 56 w' w.heap.size v' L ∧ Below w.heap.size w w' := by
  obtain ⟨rv, ev, h⟩ := h
  have hc := h.cells.1
  have t := clone_any rv L h.refs (by omega)
  obtain ⟨a, c, rfl, _⟩ := h.refs.shape
  clear h
  go_enter Try.func14, Try.ntmps14
  go_wp2_with (go_at_call 31; refine t.mono ?_; rintro e w5 ⟨v5, rfl, hO5, hb5⟩)
  go_ret
  exact ⟨_, rfl, hO5, hb5⟩
end
end Go.Proofs.Ytkkcdmdkjedkjaa
