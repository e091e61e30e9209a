/- A run that came in by value; ExtentForks' walk for the frame. -/
import Derived.Test.YtcmibcmndiplbabR19
import Derived.Test.YtcmibcmndiplbabFrame3
namespace Go.Proofs.Ytcmibcmndiplbab
open Go.ChangeShapes Go.WideShapes Go.ChangeAt Go.RowKit

theorem open_run {H : Type} {enc : TypeId × Value → H} {W : World} {base : Nat} {v : Value} {d : DataW H} {p : List MemPlace}
    (hk : Value.okWide Try.prog W .any base 43 v) (h : DataW.Trod enc Try.prog W 0 (fun _ => true) true 43 v d p) : ∃ ab : Int × Int, v = .agg #[.int .i64 ab.1, .int .i64 ab.2] := by
  obtain ⟨cs, rfl, hsz⟩ := okWide_struct Try.underlying43 hk
  obtain ⟨fuel, hf⟩ := h
  obtain ⟨y0, y1, n, _, _, h0, h1⟩ := trod_struct2 Try.underlying43 hf
  have c3 : Try.prog.cellsOf 3 = 1 := by kernel_rfl
  have c43 : Try.prog.cellsOf 43 = 2 := by kernel_rfl
  rw [c43] at hsz
  obtain ⟨ls⟩ := cs
  match ls, hsz with
  | [v0, v1], _ =>
    simp [Value.cells, c3] at h0 h1
    obtain ⟨z0, e0, _, _⟩ := DataW.trod_int Try.underlying3 h0
    obtain ⟨z1, e1, _, _⟩ := DataW.trod_int Try.underlying3 h1
    simp only [List.cons.injEq, and_true] at e0 e1
    exact ⟨(z0, z1), by rw [e0, e1]⟩

theorem walk_extentForks (f s : Int) (v : Value) (ds : List (Int × Int × Int)) (v' : Value) (ds' : List (Int × Int × Int)) (vr : Value) (ab : Int × Int) (w : World) (hf : (Lit.int .u8 f).wf = true) (hs : (Lit.int .u8 s).wf = true) (hv : Deeds w v ds) (hv' : Deeds w v' ds') (hr : vr = .agg #[.int .i64 ab.1, .int .i64 ab.2]) :
    Calls Try.prog 7 #[.int .u8 f, .int .u8 s, v, v', vr] w fun e w' => e = .returned (.bool true) ∧ Below w.heap.size w w' := by
  subst hr
  exact forks_any f s ab.1 ab.2 v v' ds ds' w (u8_in hf).1 (u8_in hf).2 (u8_in hs).1 (u8_in hs).2 hv hv'
end Go.Proofs.Ytcmibcmndiplbab
