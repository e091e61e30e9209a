/- What SlotTorn asks of a cell: tells. -/
import Derived.Test.YtgjjjkokmgdmjaaDoorS24
import Derived.Test.YtgjjjkokmgdmjaaDoorS17
namespace Go.Proofs.YtgjjjkokmgdmjaaDoor
open Go.RowKit
def tlB (f g : Int) (had e1 e2 : Bool) : Bool :=
  if g = 0 then decide (f = 0) && e2 else if g = 7 then (had && decide (f = 0) && e1 || !had && decide (f = 9)) || (decide (f = 0) && e2) || (!had && decide (f = 13)) else had && decide (f = 0) && e1 || !had && decide (f = 9)
section
variable {w : World} {p g bm base : Nat} {D : Dk.Dk}
theorem opn_at {b : Nat} (hd : D.down = false) (hb : b + 2 ≤ D.S.length) : opn D (b : Int) = 0 := by
  unfold opn
  rw [hd, if_neg (by simp), if_neg (by omega)]
set_option maxHeartbeats 16000000 in
set_option maxRecDepth 100000 in
theorem tells_c (h : Dk.At w p g bm base D) (hd : D.down = false) (hl : D.S.length = 3) (hV : Vars w) (f k : Int) (Q : List Int) (LS WS : ByteArray) (had E1 E2 : Bool) (hgt : gt (sc0 D 1) (sc0 D 2) = (f, Q))
    (hE1 : ((strOfNums Q).toList == WS.toList) = E1) (hE2 : ((strOfNums Q).toList == LS.toList) = E2) (hc : tlB f k had E1 E2 = true) (hf : f = 0 ∨ f = 9 ∨ f = 13) (hk : k = 0 ∨ k = 7 ∨ k = 6) :
    Calls Tryd.prog 13 #[.pointer (some ⟨p, 0, none⟩), .int .i64 k, .string LS, .string WS, .bool had] w fun e w' => e = .returned (.bool true) ∧ Below w.heap.size w w' := by
  have HV : Hid (Vars w) := ⟨hV⟩
  have HA : Hid (Dk.At w p g bm base D) := ⟨h⟩
  have HD : Hid (D.down = false ∧ D.S.length = 3) := ⟨hd, hl⟩
  have HG : Hid (gt (sc0 D 1) (sc0 D (1 + 1)) = (f, Q)) := ⟨hgt⟩
  have t1 := open_good (bs := 1) h (opn_at (b := 1) hd (by rw [hl]; decide))
  obtain ⟨S, HS⟩ : ∃ S, Hid (strOfNums Q = S) := ⟨_, ⟨rfl⟩⟩
  rw [HS.out] at hE1 hE2
  have hn1 : E1 = false → ¬ S.toList = WS.toList := fun e q => by rw [e, q] at hE1; simp at hE1
  have hn2 : E2 = false → ¬ S.toList = LS.toList := fun e q => by rw [e, q] at hE2; simp at hE2
  clear h hd hl hV hgt
  have key : ∀ w1, Below w.heap.size w w1 → CellAt w1 w.heap.size p ((1 : Nat) : Int) D.life → Calls Tryd.prog 16 #[.pointer (some ⟨w.heap.size, 0, none⟩)] w1 fun e w' => ∃ v, e = .returned (.tuple #[v, .int .i64 f]) ∧ OwnB w' w1.heap.size v Q ∧ Below w1.heap.size w1 w' := fun w1 hb hC => by
    have t2 := get_any (HA.out.below hb) hC HD.out.1 (by rw [HD.out.2]; decide) (Dg.NibsAt.below HV.out hb)
    rw [HG.out] at t2
    exact t2
  rcases hf with rfl | rfl | rfl <;> rcases hk with rfl | rfl | rfl <;> cases had <;> cases E1 <;> cases E2
  all_goals first
    | exact absurd hc (by decide)
    | (clear hc
       have hn1' := hn1
       have hn2' := hn2
       clear hn1 hn2
       simp only [forall_const, Bool.true_eq_false, false_implies] at hn1' hn2'
       go_enter Tryd.func13, Tryd.ntmps13
       go_upto_region 4 with (go_at_call 7; refine t1.mono ?_; rintro e w1 ⟨rfl, hC1, hb1⟩; clear t1)
       have HB1 : Hid (Below w.heap.size w w1) := ⟨hb1⟩
       have t2 := key w1 hb1 hC1
       clear hC1 hb1 key
       go_upto_region 5 with (go_at_call 16; refine t2.mono ?_; rintro e w2 ⟨v2, rfl, hO2, hb2⟩; clear t2; obtain ⟨a2, c2, rfl⟩ := Oc.OwnB.slice hO2)
       have HB2 : Hid (Below w1.heap.size w1 w2) := ⟨hb2⟩
       have s1 := Oc.run_str Tryd.bt (Oc.OwnB.bs hO2) 9 Tryd.underlying9
       rw [HS.out] at s1
       clear hO2 hb2
       go_wp2_with fail
       go_ret
       exact ⟨rfl, HB1.out.trans (HB2.out.mono HB1.out.size)⟩)
end
end Go.Proofs.YtgjjjkokmgdmjaaDoor
