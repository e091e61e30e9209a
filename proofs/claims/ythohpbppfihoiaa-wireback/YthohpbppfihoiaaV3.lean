/- append of bytes within a region that draws; a text of bytes. -/
import Derived.Test.YthohpbppfihoiaaV2
import Derived.Test.YthohpbppfihoiaaN8
import Derived.Test.YthohpbppfihoiaaIntsE
import Derived.Deep.CutRange
import Derived.Deep.RegionHeld3
namespace Go.Proofs.Ythohpbppfihoiaa
open Go.RowKit

section
variable {w : World} {o : Oper} {a : Act} {K : Act → World → Prop} {Q : Exit → Act → World → Prop}
theorem op_appY (s x : Operand)
    (ho : o.op = .call { callee := .builtin .append, args := #[s, x], argTypes := #[25, 25] })
    {base : Nat} {v u : Value} {xs ys : List Int} (hs : a.eval s = v) (hown : OwnY w base v xs)
    (hx : a.eval x = u) (hu : RdY w u ys) (hlen : xs.length + ys.length ≤ 1000000000000) (hbase : base ≤ w.heap.size)
    (h : ∀ v' w', OwnY w' base v' (xs ++ ys) → Chg (ob v) w w' → (v'.ownBlock = v.ownBlock ∨ v'.ownBlock = some w.heap.size) → K (a.put o.dst v') w') :
    Oper.wp Try.prog o a w K Q := by
  obtain ⟨i0, hi, hz0, hz1, hz2⟩ := info_parts' infoByte
  obtain ⟨ao, cap, rfl, hl, hm, hn, hc⟩ := hu
  cases ao with
  | none =>
    have hcap := hn rfl
    subst hcap
    have hy : ys = [] := by rw [yv_len] at hl; exact List.length_eq_zero_iff.1 (by omega)
    subst hy
    have hrun := run_append_owned_none (P := Try.prog) (w := w) base 25 o.type 5 i0 1 Try.underlying25 hi v xs.length _ hown
    unfold Oper.wp
    simp [execOp, ho, resolve, invoke, builtin, hs, hx, hrun, Result.andThen, yv_len]
    exact h v w (by simpa [OwnY] using hown) (Chg.refl _ _) (.inl rfl)
  | some ad =>
    rw [yv_len] at hx hl hc
    obtain ⟨v', w', hr, h2, h3, h4⟩ := run_append_at (P := Try.prog) w base 25 o.type 5 i0 (.int .u8 0) 1 Try.underlying25 hi hz0 hz1 hz2 rfl v xs.length _ hown ad ys.length cap (yv ys) (yv_len ys) (by
      intro j u hj
      have hjl : j < ys.length := by
        rcases Nat.lt_or_ge j ys.length with h | h
        · exact h
        · rw [List.getElem?_eq_none (by rw [yv_len]; exact h)] at hj; cases hj
      rw [hc ad rfl j hjl]
      exact hj) (yv_one ys) (by unfold maxLen; omega) (by omega) hbase
    unfold Oper.wp execOp
    simp only [ho, resolve, invoke, builtin, Sem.run_bind, Sem.run_pure, Result.andThen_ok, List.map_toArray, List.map_cons, List.map_nil, hs, hx, hr]
    exact h v' w' (by unfold OwnY; rw [yv_app, List.length_append]; exact h2) (Chg.ofGrown h3) h4
end
/-- The text of these bytes has these bytes. -/
theorem strBs_of (bs : List Int) (h : ∀ z ∈ bs, 0 ≤ z ∧ z < 256) : strBs (strOfNums bs) = bs := by
  unfold strBs
  rw [strOfNums_data, List.map_map]
  conv => rhs; rw [← List.map_id bs]
  refine List.map_congr_left fun z hz => ?_
  have := h z hz
  simp only [Function.comp, id]
  rw [UInt8.toNat_ofNat', Nat.mod_eq_of_lt (by omega)]
  omega
theorem bs_str {W : World} {v : Value} {bs : List Int} (h : Oct.Bs W v bs) : (convert 25 9 v).run Try.prog W = .ok (.string (strOfNums bs)) W := Oct.run_str Oct.Try.bt h 9 Try.underlying9
/-- A sum's variable as bytes. -/
theorem sum_rdY {W : World} {q : Nat} {l : List Int} {fr : Nat × Nat} (hl : l.length = 32) (h : W.heap[q]? = some (.cells (yv l).toArray 47 fr)) : RdY W (.slice (some ⟨q, 0, none⟩) 32 32) l := by
  refine bs_rdY ⟨some ⟨q, 0, none⟩, 32, by rw [hl], by omega, by decide, by simp, fun z hz i hi => ?_⟩
  cases hz
  rw [Oct.add_plain, Nat.zero_add, cell_of_row _ _ _ _ _ _ h, List.getElem?_toArray, yv_get l hi]
theorem info47 : (Try.prog.info? 47).map (·.size) = some 32 := by kernel_rfl
theorem zero47 : (Try.prog.info? 47).bind (·.zero) = some (.agg (yv (List.replicate 32 0)).toArray) := by kernel_rfl
theorem cellsP {W : World} {q g0 p : Nat} {A : Array Value} {s : Int} {nm : ByteArray} {g i : Int} {hv pv bv : Value} (hA : na s nm g i hv pv bv = A) (hX : W.heap[q]? = some (.cells A 27 (0, 0))) {x1 : List Int} {y : Int} (h32 : x1.length = 32)
    (hg : ∀ j, j < 33 → W.cell? ⟨g0, p + j, none⟩ = (pe (x1, y))[j]?) : W.cell? ⟨q, 5, none⟩ = some pv ∧ W.cell? ⟨g0, p + 32, none⟩ = some (.int .i64 y) := by
  refine ⟨by rw [cell_of_row _ _ _ _ _ _ hX, ← hA]; rfl, ?_⟩
  rw [hg 32 (by decide)]
  unfold pe
  rw [List.getElem?_append_right (by simp [h32])]
  simp [h32]
theorem cellsH {W : World} {q g0 p : Nat} {A : Array Value} {s : Int} {nm : ByteArray} {g i : Int} {hv pv bv : Value} (hA : na s nm g i hv pv bv = A) (hX : W.heap[q]? = some (.cells A 27 (0, 0))) {x1 : ByteArray} {y : Int}
    (hg : ∀ j, j < 2 → W.cell? ⟨g0, p + j, none⟩ = (he (x1, y))[j]?) : W.cell? ⟨q, 4, none⟩ = some hv ∧ W.cell? ⟨g0, p, none⟩ = some (.string x1) ∧ W.cell? ⟨g0, p + 1, none⟩ = some (.int .i64 y) := by
  refine ⟨by rw [cell_of_row _ _ _ _ _ _ hX, ← hA]; rfl, ?_, ?_⟩
  · have := hg 0 (by decide); simpa [he] using this
  · have := hg 1 (by decide); simpa [he] using this
end Go.Proofs.Ythohpbppfihoiaa
