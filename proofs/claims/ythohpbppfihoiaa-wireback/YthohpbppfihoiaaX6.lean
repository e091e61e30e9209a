/- The taker's note. -/
import Derived.Test.YthohpbppfihoiaaGx
namespace Go.Proofs.Ythohpbppfihoiaa
open Go.RowKit Go.Lib

section
variable {w : World}
theorem note31 {B q : Nat} {v : Value} {bs : List Int} {st : St} (hT : Tk w q v st) (hO : Old B w v bs) (hB : B ≤ w.heap.size) (hBq : B ≤ q) (hby : ∀ x ∈ bs, 0 ≤ x ∧ x < 256) (hl : bs.length ≤ 140737488355328) (hin : InS bs st) :
    Calls Try.prog 31 #[.pointer (some ⟨q, 0, none⟩)] w fun e w' => NoteP w w' q v (noteS bs st).1 (noteS bs st).2 e := by
  cases hs : isS (nS bs st).1 with
  | false => exact note_0 hT hO hB hBq hby hl hin hs
  | true =>
    have h7 : (nS bs st).1 = 1 ∨ (nS bs st).1 = 2 ∨ (nS bs st).1 = 3 ∨ (nS bs st).1 = 4 ∨ (nS bs st).1 = 5 ∨ (nS bs st).1 = 6 ∨ (nS bs st).1 = 7 := by
      unfold isS at hs
      have := of_decide_eq_true hs
      omega
    rcases h7 with h | h | h | h | h | h | h
    · exact note_1 hT hO hB hBq hby hl hin h
    · exact note_2 hT hO hB hBq hby hl hin h
    · exact note_3 hT hO hB hBq hby hl hin h
    · exact note_4 hT hO hB hBq hby hl hin h
    · exact note_5 hT hO hB hBq hby hl hin h
    · exact note_6 hT hO hB hBq hby hl hin h
    · exact note_7 hT hO hB hBq hby hl hin h
end
theorem noteK_in {bs : List Int} {m : Nm} {s : Int} {s1 : St} (hb : ∀ x ∈ bs, 0 ≤ x ∧ x < 256) (h : InS bs s1) : InS bs (noteK m bs s s1).2 := by
  obtain ⟨m1, m2, m3, m4, m5⟩ := m
  have c1 : ∀ (x : Bool) (st : St), InS bs st → InS bs (cond x (nS bs st) (0, st)).2 := fun x st h => by cases x <;> first | exact h | exact nS_in hb h
  have c2 : ∀ (x : Bool) (k : Int) (st : St), InS bs st → InS bs (cond x (xS bs k st) ([], st)).2 := fun x k st h => by cases x <;> first | exact h | exact xS_in hb k h
  have c3 : ∀ (x : Bool) (st : St), InS bs st → InS bs (cond x (lS bs 64 (hS bs) st) ([], st)).2 := fun x st h => by cases x <;> first | exact h | exact lS_in hb _ _ (fun st h => hS_in hb h) h
  have c4 : ∀ (x : Bool) (st : St), InS bs st → InS bs (cond x (lS bs 256 (pS bs) st) ([], st)).2 := fun x st h => by cases x <;> first | exact h | exact lS_in hb _ _ (fun st h => pS_in hb h) h
  exact c2 _ _ _ (c4 _ _ (c3 _ _ (c1 _ _ (c1 _ _ (c2 _ _ _ h)))))
theorem noteS_in {bs : List Int} {st : St} (hb : ∀ x ∈ bs, 0 ≤ x ∧ x < 256) (h : InS bs st) : InS bs (noteS bs st).2 := by
  unfold noteS
  split
  · exact noteK_in hb (nS_in hb h)
  · exact noteK_in hb (flS_in (nS_in hb h) 4)
/-- No note. -/
def zN : Nt := ⟨0, { data := #[] }, 0, 0, [], [], []⟩
def chkN (n : Nt) : Int := chk n.s n.nm n.g n.i n.H n.P n.bs.length
/-- What Take tells: the note, or the error. -/
def tkN (bs : List Int) : Nt × Int :=
  let s1 := flS (noteS bs (0, 0)).2 (chkN (noteS bs (0, 0)).1)
  let s2 := if s1.1 < (bs.length : Int) then flS s1 4 else s1
  if s2.2 = 0 then ((noteS bs (0, 0)).1, 0) else (zN, s2.2)
/-- What Take answers. -/
def TakeP (w w' : World) (n : Nt) (c : Int) (e : Ending) : Prop :=
  ∃ ha hc pa pc ba bc, e = .returned (.tuple #[.agg (na n.s n.nm n.g n.i (.slice ha n.H.length hc) (.slice pa n.P.length pc) (.slice ba n.bs.length bc)), .int .i64 c]) ∧ OwnE he 2 46 w' w.heap.size (.slice ha n.H.length hc) n.H ∧ OwnE pe 33 49 w' w.heap.size (.slice pa n.P.length pc) n.P ∧ OwnY w' w.heap.size (.slice ba n.bs.length bc) n.bs ∧ Below w.heap.size w w'
end Go.Proofs.Ythohpbppfihoiaa
