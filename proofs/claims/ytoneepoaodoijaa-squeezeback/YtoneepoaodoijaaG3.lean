/- A place is added to its row. -/
import Derived.Test.YtoneepoaodoijaaG2
namespace Go.Proofs.Ytoneepoaodoijaa
open Go.RowKit Go.Lib

theorem wpi_appI1 {F : Fence} {n : Nat} {w : World} {ops : Array Oper} {rest : List Oper} {o : Oper} {ac : Act} {Q : Exit → Act → World → Prop} {y : Int} (hgd : o.guard = none) (s x : Operand)
    (ho : o.op = .call { callee := .builtin .append, args := #[s, x], argTypes := #[67, 67] })
    {base : Nat} {v : Value} {xs : List Int} (hs : ac.eval s = v) (hown : OwnI w base v xs) (ad : Addr) (hc : w.cell? ad = some (.int .i64 y))
    (hx : ac.eval x = .slice (some ad) 1 1) (hlen : xs.length ≤ 1000000000000) (hbase : base ≤ w.heap.size)
    (h : ∀ v' w', OwnI w' base v' (xs ++ [y]) → Chg (ob v) w w' → (v'.ownBlock = v.ownBlock ∨ v'.ownBlock = some w.heap.size) → wpListIn F n Try.prog ops Q rest (ac.put o.dst v') w') : wpListIn F n Try.prog ops Q (o :: rest) ac w := by
  refine wpListIn_plain hgd fun K hK => ?_
  obtain ⟨i0, hi, hz0, hz1, hz2⟩ := info_parts' infoInt
  obtain ⟨v', w', hr, h2, h3, h4⟩ := run_append_at (P := Try.prog) w base 67 o.type 3 i0 (.int .i64 0) 8 Try.underlying67 hi hz0 hz1 hz2 rfl v xs.length _ hown ad 1 1 [.int .i64 y] rfl (fun j u hj => by
    match j, hj with
    | 0, hj => simp at hj; subst hj; simpa [Addr.add] using hc) (fun u hu => by simp at hu; subst hu; rfl) (by unfold maxLen; omega) (by omega) hbase
  unfold Oper.wpIn
  refine ⟨?_, ?_⟩
  · simp [Oper.about, ho, resolve, Target.leads, Sem.run_pure]
  · rw [Oper.semAt_plain F _ _ (by rw [ho]; intro c hc'; cases hc')]
    simp [execOp, ho, resolve, invoke, builtin, hs, hx, hr, Result.andThen]
    exact hK _ _ (h v' w' (by unfold OwnI; rw [iv_app, List.length_append]; exact h2) (Chg.ofGrown h3) h4)
/-- What is told of a place's row, and of what becomes of it. -/
theorem turn {V : World} {b : Nat} {p : List Int} {a : Nat} {L : List Gr} {K : List Int} (hM : MpL V b L) (hS : StI V (b + 1) p a L) (hK : fo p a = K) (hK4 : K.length = 4) (hb : b < V.heap.size) :
    ∃ (j : Nat) (x : Gr) (A2 : World), (Instr.mapEntry 62 (.map (some b)) (kv K)).run Try.prog (V.alloc (.cells #[.int .i64 (a : Int)] 3)) = .ok (.tuple #[x.2.2, .int .i64 (j : Int)]) A2 ∧ OwnI A2 (b + 1) x.2.2 (x.2.1.map Int.ofNat) ∧ (x.2.1.map Int.ofNat).length ≤ a ∧
      A2.cell? ⟨V.heap.size, 0, none⟩ = some (.int .i64 (a : Int)) ∧ b + 1 ≤ A2.heap.size ∧
      ∀ v' A3, OwnI A3 (b + 1) v' (x.2.1.map Int.ofNat ++ [(a : Int)]) → Chg (ob x.2.2) A2 A3 → (v'.ownBlock = x.2.2.ownBlock ∨ v'.ownBlock = some A2.heap.size) →
        ∃ A4 L2, (Instr.entryStore 62 (.map (some b)) (.int .i64 (j : Int)) v').run Try.prog A3 = .ok () A4 ∧ MpL A4 b L2 ∧ StI A4 (b + 1) p (a + 1) L2 ∧ Kc b V A4 := by
  subst hK
  obtain ⟨A1, HA1⟩ : ∃ A, A = V.alloc (.cells #[.int .i64 (a : Int)] 3) := ⟨_, rfl⟩
  have hB1 : Below V.heap.size V A1 := by rw [HA1]; exact (Below.refl _ V).alloc (Nat.le_refl _) _
  have hM1 : MpL A1 b L := hM.stay (fun o ho _ => (hB1.block b hb).trans ho)
  have hS1 : StI A1 (b + 1) p a L := hS.stay (fun x hx g hg o ho _ => (hB1.block g (hS.lt x hx g hg).2).trans ho)
  have hc1 : A1.heap[V.heap.size]? = some (.cells #[.int .i64 (a : Int)] 3 (0, 0)) := by rw [HA1]; exact heap_alloc_new V _
  obtain ⟨L', j, x, o, hr, hM2, hj, hxK, hL'⟩ := entryL hM1 hK4
  rw [← HA1]
  have hmap1 : ∃ y : Obj, A1.heap[b]? = some y ∧ soft y = false := by obtain ⟨_, es, h1, _⟩ := hM1; exact ⟨_, h1, rfl⟩
  have hP2 : ∀ k, k ≠ b → (A1.putObj b o).heap[k]? = A1.heap[k]? := fun k hk => World.putObj_heap_other hk
  have hS2' : StI (A1.putObj b o) (b + 1) p a L := hS1.stay (fun x hx g hg o ho _ => (hP2 g (by have := (hS1.lt x hx g hg).1; omega)).trans ho)
  have hS2 : StI (A1.putObj b o) (b + 1) p a L' := by
    rcases hL' with rfl | ⟨rfl, -, -, hn⟩
    · exact hS2'
    · exact hS2'.entry hn
  have hxm := List.mem_of_getElem? hj
  have hrow := hS2.row x hxm
  refine ⟨j, x, A1.putObj b o, hr, hrow.1, by rw [List.length_map]; exact hrow.2.2, ?_, ?_, ?_⟩
  · rw [cell_of_row _ _ _ _ _ _ ((hP2 V.heap.size (by omega)).trans hc1)]
    rfl
  · have := (Array.getElem?_eq_some_iff.1 hc1).1
    simp
    omega
  · intro v' A3 ho3 hc3 hv3
    have hbx : b ∉ ob x.2.2 := fun h => by have := (hS2.lt x hxm b h).1; omega
    have hM3 : MpL A3 b L' := hM2.stay (fun y hy _ => (hc3.block b hM2.lt hbx).trans hy)
    have hS3 := hS2.put hj hxK (v := v') (w' := A3) (by rw [List.map_append]; exact ho3) hc3 (hv3.imp id (fun h => ⟨_, h, Nat.le_refl _⟩))
    obtain ⟨o4, hr4, hM4⟩ := storeL hM3 hj (x.2.1 ++ [a]) v'
    have hmap3 : ∃ y : Obj, A3.heap[b]? = some y ∧ soft y = false := by obtain ⟨_, es, h1, _⟩ := hM3; exact ⟨_, h1, rfl⟩
    refine ⟨_, _, hr4, hM4, hS3.stay (fun y hy g hg q hq _ => (World.putObj_heap_other (by have := (hS3.lt y hy g hg).1; omega)).trans hq), ?_⟩
    refine (((Kg.below hB1).trans (Kc.put (Nat.le_refl _) hmap1)).trans (Kg.chg hc3 (fun k y hy hk hm => ?_))).trans (Kc.put (Nat.le_refl _) hmap3)
    have hlt := (hS2.lt x hxm k hm).1
    obtain ⟨cs, hcs⟩ := own_ty hrow.1 (mem_ob.1 hm)
    rw [hcs] at hy
    cases hy
    rcases hk with hk | hk
    · omega
    · cases hk
end Go.Proofs.Ytoneepoaodoijaa
