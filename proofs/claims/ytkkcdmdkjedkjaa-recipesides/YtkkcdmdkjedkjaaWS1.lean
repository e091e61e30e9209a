/- RecipeSides: the law's walk. -/
import Derived.Test.YtkkcdmdkjedkjaaR12
import Derived.Test.YtkkcdmdkjedkjaaWN
import Derived.Test.YtkkcdmdkjedkjaaRefFrame
namespace Go.Proofs.Ytkkcdmdkjedkjaa
open Go.RowKit Go.Lib

theorem size3 (w : World) : (sizeOf 3).run Try.prog w = .ok 1 w := by kernel_rfl
theorem eqIn47 (w : World) (a b : Int) (d : Nat) : (Op.equalIn (d + 2) 47 (.agg #[.int .i64 a, .int .i64 b]) (.agg #[.int .i64 a, .int .i64 b])).run Try.prog w = .ok true w := by
  have h0 := partI w #[.int .i64 a, .int .i64 b] (0 * 1) a rfl
  have h1 := partI w #[.int .i64 a, .int .i64 b] (1 * 1) b rfl
  rw [Op.equalIn]
  simp only [Sem.run_bind, run_underlying Try.underlying47, Result.andThen_ok, size3]
  rw [Std.Legacy.Range.forIn_eq_forIn_range']
  have : List.range' (Std.Legacy.Range.mk 0 2 1 (by decide)).start (Std.Legacy.Range.mk 0 2 1 (by decide)).size (Std.Legacy.Range.mk 0 2 1 (by decide)).step = [0, 1] := by rfl
  rw [this]
  simp only [List.forIn_cons, List.forIn_nil, Sem.run_bind, h0, h1, Result.andThen_ok, run_equalIn_int w d 3 .i64 .i64 _ _ Try.underlying3, beq_self_eq_true, Bool.not_true, Bool.false_eq_true, if_false, Sem.run_pure]
theorem ne47 (w : World) (a b : Int) : (binOp .neq 47 (.agg #[.int .i64 a, .int .i64 b]) (.agg #[.int .i64 a, .int .i64 b])).run Try.prog w = .ok (.bool false) w := by
  rw [run_neq_struct, eqIn47 w a b 9998]
  rfl
theorem guard47 (w : World) (op : BinOp) (x y : Operand) (xs ys : Array Value) : (eqGuard op 47 x y (.agg xs) (.agg ys)).run Try.prog w = .ok () w := run_eqGuard_agg w op 47 x y xs ys (by kernel_rfl)
section
variable {w w1 : World}
theorem cut2_at {p : Nat} {L : List Rf} (fr n : Nat) (hf : fr ≤ (lens L).sum) (hn : n ≤ 1000000) (h : Rec w p L) (hR : Rt L) (hb : Below w.heap.size w w1) : Calls Try.prog 20 #[.pointer (some ⟨p, 0, none⟩), .int .i64 (fr : Int), .int .i64 (n : Int)] w1 fun e w2 => ∃ v, e = .returned (.tuple #[v, .int .i64 0]) ∧ RdE pv 3 ⟨0, 0, 0⟩ w2 v (Rp.pcs (lens L) 0 fr ((fr : Int) + n)) ∧ Below w1.heap.size w1 w2 :=
  (cut_any (h.below hb) hR fr n hf (by omega)).mono (fun _ _ ⟨v, h1, h2, h3⟩ => ⟨v, h1, h2.rd _, h3⟩)
theorem told_at {v u : Value} {L : List Rf} {ps : List Rp.Pc} (h : RdR w v L) (hR : Rt L) (hu : RdE pv 3 ⟨0, 0, 0⟩ w1 u ps) (hps : ∀ p ∈ ps, Rp.pok (lens L) p) (hpl : ps.length ≤ 256) (htl : (Rp.tld ps).length ≤ 131072) (hb : Below w.heap.size w w1) :
    Calls Try.prog 23 #[v, u] w1 fun e w2 => ∃ x, e = .returned (.tuple #[x, .bool true]) ∧ RdE tv 2 (0, 0) w2 x (Rp.tld ps) ∧ Below w1.heap.size w1 w2 :=
  (told_any v u L ps (h.below hb) hR hu hps hpl htl).mono (fun _ _ ⟨v, h1, h2, h3⟩ => ⟨v, h1, h2.rd _, h3⟩)
end
theorem pcs_pok (ls : List Nat) (a b : Int) : ∀ p ∈ Rp.pcs ls 0 a b, Rp.pok ls p := fun p hp => by
  obtain ⟨_, h2, h3, h4⟩ := Rp.pcs_ok ls 0 a b p hp
  exact ⟨h2, h3, h4⟩
theorem tld_len (ls : List Nat) (a b : Int) : (Rp.tld (Rp.pcs ls 0 a b)).length = min b.toNat ls.sum - a.toNat := by
  rw [Rp.tld_pcs, List.length_drop, List.length_take, Rp.bts_len]
/-- Two cuts side by side are the cut of both. -/
theorem tld_sides (ls : List Nat) (a b n : Nat) : Rp.tld (Rp.pcs ls 0 (a : Nat) ((a : Int) + ((b + n : Nat) : Int))) = Rp.tld (Rp.pcs ls 0 (a : Nat) ((a : Int) + b)) ++ Rp.tld (Rp.pcs ls 0 ((a + b : Nat) : Int) (((a + b : Nat) : Int) + n)) := by
  rw [Rp.tld_pcs, Rp.tld_pcs, Rp.tld_pcs]
  have e1 : ((a : Int) + ((b + n : Nat) : Int)).toNat = a + b + n := by omega
  have e2 : ((a : Int) + (b : Int)).toNat = a + b := by omega
  have e3 : (((a + b : Nat) : Int) + (n : Int)).toNat = a + b + n := by omega
  have e4 : ((a : Nat) : Int).toNat = a := by omega
  have e5 : ((a + b : Nat) : Int).toNat = a + b := by omega
  rw [e1, e2, e3, e4, e5]
  generalize Rp.bts ls 0 = B
  apply List.ext_getElem?
  intro i
  rw [List.getElem?_drop, List.getElem?_take]
  by_cases h : i < ((B.take (a + b)).drop a).length
  · rw [List.getElem?_append_left h, List.getElem?_drop, List.getElem?_take]
    simp only [List.length_drop, List.length_take] at h
    rw [if_pos (by omega), if_pos (by omega)]
  · rw [List.getElem?_append_right (by omega), List.getElem?_drop, List.getElem?_take]
    simp only [List.length_drop, List.length_take] at h ⊢
    by_cases hB : a + b ≤ B.length
    · rw [show a + b + (i - (min (a + b) B.length - a)) = a + i by omega]
    · rw [List.getElem?_eq_none (by omega), List.getElem?_eq_none (by omega)]
      split <;> split <;> rfl
end Go.Proofs.Ytkkcdmdkjedkjaa
