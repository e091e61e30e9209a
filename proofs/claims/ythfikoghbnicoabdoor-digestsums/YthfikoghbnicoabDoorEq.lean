/- Two arrays of bytes are equal where their bytes are. -/
import Derived.Test.YthfikoghbnicoabDoorD14
import Derived.Laws.StructEq
namespace Go.Proofs.YthfikoghbnicoabDoor
open Go.RowKit

theorem size5 (w : World) : (sizeOf 5).run Tryd.prog w = .ok 1 w := by kernel_rfl
theorem part5 (w : World) (f : Nat → Int) (i : Nat) (h : i < 32) : (part 5 (arr .u8 32 f) (i * 1)).run Tryd.prog w = .ok (.int .u8 (f i)) w := by
  have : (arr .u8 32 f)[i]? = some (.int .u8 (f i)) := arr_get _ _ _ _ h
  unfold part
  simp [this]

theorem eq24 (w : World) (f g : Nat → Int) (d : Nat) : (Op.equalIn (d + 2) 24 (.agg (arr .u8 32 f)) (.agg (arr .u8 32 g))).run Tryd.prog w = .ok ((List.range' 0 32).all fun i => f i == g i) w := by
  rw [Op.equalIn]
  simp only [Sem.run_bind, run_underlying Tryd.underlying24, Result.andThen_ok, size5]
  rw [Std.Legacy.Range.forIn_eq_forIn_range']
  have hl : ∀ i ∈ List.range' 0 32, i < 32 := by decide
  show _ = _
  have : List.range' (Std.Legacy.Range.mk 0 32 1 (by decide)).start (Std.Legacy.Range.mk 0 32 1 (by decide)).size (Std.Legacy.Range.mk 0 32 1 (by decide)).step = List.range' 0 32 := by rfl
  rw [this]
  generalize List.range' 0 32 = l at hl
  clear this
  induction l with
  | nil => simp
  | cons i l ih =>
    have hi := hl i (by simp)
    simp only [List.forIn_cons, Sem.run_bind, part5 w f i hi, part5 w g i hi, Result.andThen_ok, run_equalIn_int w d 5 .u8 .u8 _ _ Tryd.underlying5, List.all_cons]
    cases hfg : (f i == g i)
    · simp
    · simp only [Bool.not_true, Bool.false_eq_true, if_false, Sem.run_pure, Result.andThen_ok, Bool.true_and]
      exact ih (fun j hj => hl j (by simp [hj]))
end Go.Proofs.YthfikoghbnicoabDoor
