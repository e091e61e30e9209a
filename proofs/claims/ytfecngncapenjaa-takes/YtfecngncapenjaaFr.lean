/- How an array of ints that came in is opened. -/
import Derived.Test.YtfecngncapenjaaC1
import Derived.ProofKit
import Derived.OpenShut
import Derived.ChangeOld
import Derived.SizedLaws
namespace Go.Proofs.Ytfecngncapenjaa
open Go.ChangeShapes Go.WideShapes Go.ChangeAt Go.RowKit Oct

theorem Try.own : ownKnob Try.prog.godebug = none := by kernel_rfl
theorem Try.laidOut : laidOutB Try.prog = true := by kernel_rfl
theorem cells22 : Try.prog.cellsOf 22 = 256 := by kernel_rfl
theorem cells3 : Try.prog.cellsOf 3 = 1 := by kernel_rfl
theorem mapM_all {α β : Type} {f : α → Option β} : ∀ (L : List α) (xs : List β), L.mapM f = some xs → ∀ i ∈ L, ∃ y, f i = some y
  | [], _, _, i, hi => by cases hi
  | a :: L, xs, h, i, hi => by
    rw [List.mapM_cons] at h
    simp only [bind, Option.bind_eq_some_iff, pure, Option.some.injEq] at h
    obtain ⟨y, hy, ys, hys, rfl⟩ := h
    rcases List.mem_cons.1 hi with rfl | hi
    · exact ⟨y, hy⟩
    · exact mapM_all L ys hys i hi
def intOfV : Value → Int
  | .int _ n => n
  | _ => 0
set_option maxRecDepth 100000 in
theorem open_ia {H : Type} {enc : TypeId × Value → H} {W : World} {base : Nat} {v : Value} {d : DataW H} {ps : List MemPlace}
    (hk : Value.okWide Try.prog W .any base 22 v) (h : DataW.Trod enc Try.prog W 0 (fun _ => true) true 22 v d ps) :
    ∃ f : List Int, v = .agg (ia f) ∧ f.length = 256 := by
  simp only [Value.okWide, Try.underlying22] at hk
  obtain ⟨cs, rfl, h2, _⟩ := hk
  rw [cells22] at h2
  obtain ⟨fuel, hf⟩ := h
  cases fuel with
  | zero => simp [DataW.trod] at hf
  | succ m =>
    rw [DataW.trod_step] at hf
    unfold DataW.trodStep at hf
    simp only [Try.underlying22, Value.cells] at hf
    rw [if_pos (by rw [cells22]; simpa using h2)] at hf
    simp only [Option.map_eq_some_iff] at hf
    obtain ⟨ys, hy, _⟩ := hf
    have hall := mapM_all _ _ hy
    refine ⟨cs.toList.map intOfV, ?_, by simp [h2]⟩
    congr 1
    unfold ia iv
    apply Array.ext
    · simp
    · intro i h3 h4
      obtain ⟨y, hy⟩ := hall i (by rw [List.mem_range]; omega)
      rw [cells3] at hy
      obtain ⟨a, ea, _, _⟩ := DataW.trod_int Try.underlying3 hy
      have e : cs.toList[i]? = some (.int .i64 a) := by
        have := congrArg (fun l => l[0]?) ea
        simpa using this
      have e2 : cs[i] = .int .i64 a := by
        rw [Array.getElem?_toList, Array.getElem?_eq_getElem h3] at e
        exact Option.some.inj e
      simp [e2, intOfV]
end Go.Proofs.Ytfecngncapenjaa
