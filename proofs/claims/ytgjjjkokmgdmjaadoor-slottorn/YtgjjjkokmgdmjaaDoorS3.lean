/- A sector that is sealed. -/
import Derived.Test.YtgjjjkokmgdmjaaDoorS2
import Derived.Test.YtgjjjkokmgdmjaaDoorSlotP
namespace Go.Proofs.YtgjjjkokmgdmjaaDoor
open Go.RowKit
def nibL : List Nat := [0, 274646895, 549293790, 820201905, 1098587580, 1361435347, 1640403810, 1905808397, 2197175160, 2460548119, 2722870694, 2987750089, 3280807620, 3553878443, 3811616794, 4084100981]
def nibT (k : Nat) : Nat := nibL.getD k 0
theorem nibT_lt (k : Nat) : nibT k < 4294967296 := by
  unfold nibT
  rcases Nat.lt_or_ge k 16 with h | h
  · have : ∀ k : Fin 16, nibL.getD k.val 0 < 4294967296 := by decide
    exact this ⟨k, h⟩
  · simp [List.getD, List.getElem?_eq_none (show nibL.length ≤ k from h)]
/-- The check sum of bytes. -/
def crB (b : List Int) : Nat := Dg.crcM nibT 0 (b.map Int.toNat)
/-- The listed variable. -/
abbrev Vars (w : World) : Prop := Dg.NibsAt w nibT
theorem fold_lt (p : List Nat) : ∀ r, r < 4294967296 → (∀ x ∈ p, x < 256) → p.foldl (Dg.crcB nibT) r < 4294967296 := by
  induction p with
  | nil => intro r h _; exact h
  | cons x p ih => intro r h hp; exact ih _ (Dg.crcB_lt nibT nibT_lt r x h (hp x (by simp))) (fun y hy => hp y (by simp [hy]))
theorem crB_lt {b : List Int} (hb : Dk.Byt b) : crB b < 4294967296 := by
  unfold crB Dg.crcM
  refine Dg.xor_lt _ _ (by decide) (fold_lt _ _ (by decide) ?_)
  intro x hx
  obtain ⟨y, hy, rfl⟩ := List.mem_map.1 hx
  have := hb y hy
  omega
theorem il_nat {b : List Int} (hb : Dk.Byt b) : Dg.il (b.map Int.toNat) = b := by
  unfold Dg.il
  rw [List.map_map]
  conv => rhs; rw [← List.map_id b]
  apply List.map_congr_left
  intro x hx
  have := hb x hx
  simp
  omega
section
variable {w : World}
theorem crc_any (v : Value) (b : List Int) (hv : Oc.Bs w v b) (hb : Dk.Byt b) (hV : Vars w) : Calls Tryd.prog 41 #[v] w fun e w' => e = .returned (.int .u32 (crB b : Int)) ∧ w = w' := by
  refine Dg.crc_any nibT (b.map Int.toNat) v w ?_ nibT_lt hV (fun x hx => ?_)
  · rw [il_nat hb]; exact hv
  · obtain ⟨y, hy, rfl⟩ := List.mem_map.1 hx
    have := hb y hy
    omega
/-- Bytes are laid over others. -/
def putAt (l : List Int) (o : Nat) (b : List Int) : List Int := l.take o ++ b ++ l.drop (o + b.length)
theorem putAt_len {l b : List Int} {o : Nat} (h : o + b.length ≤ l.length) : (putAt l o b).length = l.length := by
  simp [putAt]; omega
theorem info5s : (Tryd.prog.info? 5).map (·.size) = some 1 := by kernel_rfl
theorem run_put (w : World) (ty s o dl dc : Nat) (t : TypeId) (l : List Int) (a : Option Addr) (n c : Nat) (b : List Int) (hg : w.heap[s]? = some (.cells (Dk.pa l) t (0, 0))) (hb : Oc.Bs w (.slice a n c) b) (hne : 0 < n) (hf : o + min n dl ≤ l.length) :
    (Builtin.copy_ #[23, 23] ty #[.slice (some ⟨s, o, none⟩) dl dc, .slice a n c]).run Tryd.prog w = .ok (goInt ((min n dl : Nat) : Int)) (w.setRow s (Dk.pa (putAt l o (b.take dl)))) := by
  obtain ⟨a', c', e, h1, h2, h3, h4⟩ := hb
  simp only [Value.slice.injEq] at e
  obtain ⟨rfl, rfl, rfl⟩ := e
  cases a with
  | none => have := h3 rfl; omega
  | some ad =>
    have hl : (Dk.pc (b.take dl)).length = min b.length dl := by simp [Dk.pc, Nat.min_comm]
    have := run_copy_row (P := Tryd.prog) w 23 23 ty 5 s o dl dc ad b.length c (Dk.pa l) t (Dk.pc (b.take dl)) Tryd.underlying23 info5s hg hl (fun j v hv => by
      have hj : j < (b.take dl).length := by
        rcases Nat.lt_or_ge j (b.take dl).length with q | q
        · exact q
        · rw [List.getElem?_eq_none (by simpa [Dk.pc] using q)] at hv; cases hv
      have hjd : j < dl ∧ j < b.length := by rw [List.length_take] at hj; omega
      rw [h4 ad rfl j hjd.2]
      have e1 : (Dk.pc (b.take dl))[j]? = some (.int .u8 (b.getD j 0)) := by
        unfold Dk.pc
        rw [List.getElem?_map, List.getElem?_take, if_pos hjd.1, List.getElem?_eq_getElem hjd.2]
        simp [List.getD, List.getElem?_eq_getElem hjd.2]
      rw [e1] at hv
      cases hv
      rfl) (by rw [hl, Dk.pa_size]; exact hf) (Dk.pc_one _)
    rw [this, hl]
    have e2 : (((Dk.pa l).toList.take o ++ Dk.pc (b.take dl) ++ (Dk.pa l).toList.drop (o + min b.length dl)).toArray) = Dk.pa (putAt l o (b.take dl)) := by
      unfold putAt Dk.pa Dk.pc
      simp [Nat.min_comm]
    rw [e2]
end
end Go.Proofs.YtgjjjkokmgdmjaaDoor
