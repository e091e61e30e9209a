/- Package gear's grown. -/
import Derived.Test.YtngeefipeghjiaaK3
namespace Go.Proofs.Ytngeefipeghjiaa
open Go.RowKit

section
variable {w : World} {ops : Array Oper} {rest : List Oper} {o : Oper} {a : Act} {Q : Exit → Act → World → Prop}
/-- 'append(row, l)' where the row has no room left. -/
theorem wp_appFull {S : Nat → Prop} {y : Value} {l : List Int} (hgd : o.guard = none) (s x : Operand)
    (ho : o.op = .call { callee := .builtin .append, args := #[s, x], argTypes := #[34, 34] })
    {ao : Option Addr} {n : Nat} {vs : List Value} {L : List (List Int)} (hs : a.eval s = .slice ao n n) (hR : Rd w (.slice ao n n) vs) (hE : Each w S vs L) (hy : Bo w S y l)
    (hx : a.eval x = .slice (some ⟨w.heap.size, 0, none⟩) 1 1) (hlen : L.length ≤ 1000000000000)
    (h : ∀ v' w', OwnR w' S 0 v' (L ++ [l]) → Chg [] w w' → v'.ownBlock = some (w.heap.size + 1) → wpList Try.prog ops Q rest (a.put o.dst v') w') :
    wpList Try.prog ops Q (o :: rest) a (w.alloc (.cells #[y] 32)) := by
  obtain ⟨i0, hi, hz0, hz1, hz2⟩ := info_parts' info35
  obtain ⟨a', cap', e0, hl0, hm0, hn0, hc0⟩ := hR
  simp at e0
  obtain ⟨rfl, rfl, rfl⟩ := e0
  have hvl := hE.1
  have hbel : Below w.heap.size w (w.alloc (.cells #[y] 32)) := (Below.refl _ w).alloc (Nat.le_refl _) _
  have hnew : ∀ j u, [y][j]? = some u → (w.alloc (.cells #[y] 32)).cell? ((⟨w.heap.size, 0, none⟩ : Addr).add j) = some u := by
    intro j u hj
    match j, hj with
    | 0, hj => simp at hj; subst hj; simp [Addr.add]
  have hrun : ∃ v' w', (Builtin.append_ #[34, 34] o.type #[.slice ao vs.length vs.length, .slice (some ⟨w.heap.size, 0, none⟩) 1 1]).run Try.prog (w.alloc (.cells #[y] 32)) = .ok v' w' ∧ w'.ownsRow 0 32 1 v' (vs.length + 1) (vs ++ [y]) ∧ Chg [] (w.alloc (.cells #[y] 32)) w' ∧ v'.ownBlock = some (w.heap.size + 1) := by
    cases ao with
    | none =>
      have h0 := hn0 rfl
      have hv0 : vs = [] := List.length_eq_zero_iff.1 h0
      subst hv0
      have e1 := run_append_nil (P := Try.prog) (w.alloc (.cells #[y] 32)) 34 o.type 32 i0 (.slice none 0 0) Try.underlying34 hi hz0 ⟨w.heap.size, 0, none⟩ 1 1 [y] (by rw [hz1]; rfl) hnew (by omega) (by omega) (by rw [hz2]; omega)
      have hge := grownCap_ge (w.alloc (.cells #[y] 32)) 1 0 32
      have hcm : grownCap (w.alloc (.cells #[y] 32)) 1 0 32 ≤ maxLen := grownCap_le_maxLen _ _ _ _ (by unfold maxLen; omega)
      refine ⟨_, _, e1, ⟨rfl, .inr ⟨_, _, _, rfl, Nat.zero_le _, heap_alloc_new (w.alloc (.cells #[y] 32)).drew _, hge, hcm, ?_, ?_⟩⟩, ⟨rfl, rfl, rfl, by simp, fun k hk _ => Below.heap_alloc _ _ _ hk⟩, by simp [Value.ownBlock]⟩
      · simp only [Array.size_append, List.size_toArray, size_zeroCells, List.length_cons, List.length_nil, Value.cells]
        simp; omega
      · simp
    | some ad =>
      have hold : ∀ j u, vs[j]? = some u → (w.alloc (.cells #[y] 32)).cell? (ad.add j) = some u := by
        intro j u hj
        have hjl : j < vs.length := by
          rcases Nat.lt_or_ge j vs.length with h | h
          · exact h
          · rw [List.getElem?_eq_none h] at hj; cases hj
        have h1 := (hc0 ad rfl j hjl).trans hj
        exact (hbel.cell (World.block_lt_of_cell? _ _ h1)).trans h1
      have e1 := run_append_grow (P := Try.prog) (w.alloc (.cells #[y] 32)) 34 o.type 32 i0 (.slice none 0 0) Try.underlying34 hi hz0 ad vs.length vs.length vs (by rw [hz1]; omega) hold ⟨w.heap.size, 0, none⟩ 1 1 [y] (by rw [hz1]; rfl) hnew (by omega) (by omega) (growslice_fits (by omega) (by rw [hz2]; omega))
      have hge := grownCap_ge (w.alloc (.cells #[y] 32)) (vs.length + 1) vs.length 32
      have hcm : grownCap (w.alloc (.cells #[y] 32)) (vs.length + 1) vs.length 32 ≤ maxLen := grownCap_le_maxLen _ _ _ _ (by unfold maxLen; omega)
      refine ⟨_, _, e1, ⟨by simp, .inr ⟨_, _, _, rfl, Nat.zero_le _, heap_alloc_new (w.alloc (.cells #[y] 32)).drew _, hge, hcm, ?_, ?_⟩⟩, ⟨rfl, rfl, rfl, by simp, fun k hk _ => Below.heap_alloc _ _ _ hk⟩, by simp [Value.ownBlock]⟩
      · simp only [Array.size_append, List.size_toArray, size_zeroCells, List.length_cons, List.length_nil, Value.cells]
        simp; omega
      · simp only [Array.toList_append, List.append_assoc]
        rw [← List.append_assoc, show (vs.length + 1) * 1 = (vs ++ [y]).length by simp]
        exact List.take_left
  obtain ⟨v', w', hr, h2, h3, h4⟩ := hrun
  have hc : Chg [] w w' := (Chg.ofBelow hbel).trans h3
  refine wpList_plain hgd fun _ hK => ?_
  unfold Oper.wp execOp
  simp only [ho, resolve, invoke, builtin, Sem.run_bind, Sem.run_pure, Result.andThen_ok, List.map_toArray, List.map_cons, List.map_nil, hs, hx, hr]
  exact hK _ _ (h v' w' ⟨vs ++ [y], by rw [List.length_append, ← hvl]; exact h2, (hE.append (Each.one hy)).far hc (by simp)⟩ hc h4)
end
section
variable {w : World} {S : Nat → Prop} {rv lv : Value} {L : List (List Int)} {l : List Int}
def more (L : List (List Int)) (l : List Int) : List (List Int) := if l.length = 0 then L else L ++ [l]
set_option maxHeartbeats 1000000 in
theorem grown_any (h : OwnR w S 0 rv L) (hl : Bo w S lv l) (hL : L.length ≤ 1000000000000) : Calls Try.prog 25 #[rv, lv] w fun e w' => ∃ rv', e = .returned rv' ∧ OwnR w' S 0 rv' (more L l) ∧ Chg [] w w' ∧ (∀ k ∈ ob rv', k ∈ ob rv ∨ w.heap.size ≤ k) := by
  obtain ⟨vs, h1, h2⟩ := h
  have hrd := own_rd h1
  obtain ⟨ar, cr, rfl, hr1, hr2, hr3, hr4⟩ := hrd
  have hbl := hl.bs
  obtain ⟨al, cl, rfl, hl1, hl2, hl3, _⟩ := hbl
  obtain ⟨n, Hn⟩ : ∃ n, Hid (vs.length = n) := ⟨_, ⟨rfl⟩⟩
  obtain ⟨m, Hm⟩ : ∃ m, Hid (l.length = m) := ⟨_, ⟨rfl⟩⟩
  have HO : Hid (OwnR w S 0 (.slice ar n cr) L) := ⟨by rw [← Hn.out]; exact ⟨vs, h1, h2⟩⟩
  have HB : Hid (Bo w S (.slice al m cl) l) := ⟨by rw [← Hm.out]; exact hl⟩
  have HR : Hid (Rd w (.slice ar n n) vs) := ⟨by rw [← Hn.out]; exact ⟨ar, vs.length, rfl, Nat.le_refl _, by omega, fun e => by have := hr3 e; omega, hr4⟩⟩
  have HE : Hid (Each w S vs L) := ⟨h2⟩
  rw [Hn.out] at hr1 ⊢
  rw [Hm.out] at hl1 ⊢
  clear h1 h2 hl hr4 hr3 hl3
  by_cases hm : m = 0
  · subst hm
    have HM : Hid (more L l = L) := ⟨if_pos Hm.out⟩
    go_enter Try.func25, Try.ntmps25
    go_wp2
    go_ret
    exact ⟨_, rfl, by rw [HM.out]; exact HO.out, Chg.refl _ _, fun k hk => .inl hk⟩
  · have HM : Hid (more L l = L ++ [l]) := ⟨if_neg (by rw [Hm.out]; exact hm)⟩
    have hmz : ¬ (m : Int) = 0 := by omega
    go_enter Try.func25, Try.ntmps25
    go_wp2_with (at_builtin; refine wp_appFull rfl (.tmp 14) (.tmp 16) rfl rfl HR.out HE.out HB.out rfl hL ?_; intro v' w' hO hG hV)
    go_ret
    exact ⟨v', rfl, by rw [HM.out]; exact hO, hG, fun k hk => .inr (by have := mem_ob.1 hk; rw [hV] at this; cases this; omega)⟩
end
end Go.Proofs.Ytngeefipeghjiaa
