/- A tick that is put. -/
import Derived.Test.YtdcmagdglmmdkaaN4
namespace Go.Proofs.Ytdcmagdglmmdkaa
open Go.RowKit
theorem iv1 (n : Nat) : (iv ([n].map (fun n : Nat => (n : Int)))).toArray = #[.int .i64 (n : Int)] := rfl
theorem Sheet.below {w w' : World} {sb base : Nat} {bs : List Int} (h : Sheet w sb base bs) (hb : Below w.heap.size w w') : Sheet w' sb base bs := by
  obtain ⟨h1, a, n, c, h2, h3⟩ := h
  exact ⟨h1, a, n, c, (hb.block sb (Array.getElem?_eq_some_iff.1 h2).1).trans h2, Oct.OwnB.below h3 hb⟩
theorem wpl_field {P : Program} {w : World} {ops : Array Oper} {rest : List Oper} {o : Oper} {a : Act} {Q : Exit → Act → World → Prop} (hg : o.guard = none) (t : TypeId) (x : Operand) (i : Nat) (ho : o.op = .field t x i) (u v : Value) (hx : a.eval x = u) (hr : (Instr.field t u i).run P w = .ok v w) (h : wpList P ops Q rest (a.put o.dst v) w) : wpList P ops Q (o :: rest) a w :=
  wpList_plain hg fun _ hK => by
    unfold Oper.wp execOp
    simp only [ho, hx, hr, Sem.run_bind, Result.andThen_ok]
    exact hK _ _ h
theorem way_lay (w : World) : (Instr.field 69 (.agg #[.func (.func 65) #[] #[], .func (.func 66) #[] #[]]) 0).run Try.prog w = .ok (.func (.func 65) #[] #[]) w := by kernel_rfl
theorem way_take (w : World) : (Instr.field 69 (.agg #[.func (.func 65) #[] #[], .func (.func 66) #[] #[]]) 1).run Try.prog w = .ok (.func (.func 66) #[] #[]) w := by kernel_rfl
section
variable {w : World}
set_option maxHeartbeats 4000000 in
set_option maxRecDepth 100000 in
theorem ticked_any (T sb base : Nat) (bs : List Int) (hT : T ≤ 9007199254740991) (hS : Sheet w sb base bs) (hb : bs.length ≤ 1000000000) :
    Calls Try.prog 65 #[.pointer (some ⟨sb, 0, none⟩), .agg (tk (T : Int))] w fun e w' => e = .returned (.tuple #[]) ∧ Sheet w' sb base (bs ++ numsB [T]) ∧ Below base w w' ∧ Kp sb w w' := by
  have hbw : base ≤ w.heap.size := by obtain ⟨h1, _, _, _, h2, _⟩ := hS; exact Nat.le_trans h1 (Nat.le_of_lt (Array.getElem?_eq_some_iff.1 h2).1)
  have hB : Below w.heap.size w ((w.alloc (.cells (tk (T : Int)) 35)).alloc (.cells #[.int .i64 (T : Int)] 3)) := ((Below.refl _ w).alloc (Nat.le_refl _) _).alloc (by simp) _
  have t := nums_any (w := (w.alloc (.cells (tk (T : Int)) 35)).alloc (.cells #[.int .i64 (T : Int)] 3)) [T] sb (w.heap.size + 1) base 1 bs (hS.below hB) rfl (by decide) hb (by simpa using hT) (by
    rw [iv1]
    have := heap_alloc_new (w.alloc (.cells (tk (T : Int)) 35)) (.cells #[.int .i64 (T : Int)] 3)
    simpa using this)
  clear hS
  go_enter Try.func65, Try.ntmps65
  go_wp2_with (go_at_call 28; refine t.mono ?_; rintro e w2 ⟨rfl, hS2, hb2, hk2⟩; clear t)
  go_end0
  exact ⟨rfl, hS2, (hB.mono hbw).trans hb2, (Kp.ofBelow hB).trans hk2⟩
set_option maxHeartbeats 8000000 in
set_option maxRecDepth 100000 in
theorem put_tick (T lb : Nat) (hT : T ≤ 9007199254740991) (h : w.heap[lb]? = some (.cells (tk (T : Int)) 35 (0, 0))) :
    Calls Try.prog 13 #[.slice (some ⟨lb, 0, none⟩) 1 1] w fun e w' => ∃ v, e = .returned (.tuple #[v, .int .i64 0]) ∧ OwnY w' w.heap.size v (numsB [1, 8, T]) ∧ Below w.heap.size w w' := by
  have HT : Hid (T ≤ 9007199254740991) := ⟨hT⟩
  have HL : Hid (w.heap[lb]? = some (.cells (tk (T : Int)) 35 (0, 0))) := ⟨h⟩
  have Hlt : Hid (lb < w.heap.size) := ⟨(Array.getElem?_eq_some_iff.1 h).1⟩
  clear h hT
  go_enter Try.func13, Try.ntmps13
  go_wp2_with fail
  go_loopw [19] (fun i wr => ∃ k : Nat, k ≤ 1 ∧ i = .int .i64 (k : Int) ∧ Hid (Below w.heap.size w wr)) (fun i _ => 1 - (intOf i).toNat)
  case atStart => exact ⟨0, by decide, rfl, ⟨Below.refl _ _⟩⟩
  case round =>
    obtain ⟨k, hk, rfl, HBr⟩ := hrel
    rcases (by omega : k = 0 ∨ k = 1) with rfl | rfl
    · have HLr : Hid (wr.heap[lb]? = some (.cells (tk (T : Int)) 35 (0, 0))) := ⟨(HBr.out.block lb Hlt.out).trans HL.out⟩
      have HB1 : Hid (Below wr.heap.size wr (wr.alloc (.cells (tk (T : Int)) 35))) := ⟨(Below.refl _ wr).alloc (Nat.le_refl _) _⟩
      have t := chk_tick (w := wr.alloc (.cells (tk (T : Int)) 35)) (T : Int) (by omega) (by have := HT.out; omega)
      go_wp2_with (first
        | (refine wpList_load_row rfl 35 (.tmp 21) rfl lb rfl 35 (tk (T : Int)) (0, 0) _ HLr.out Try.underlying35 rfl info35 ?_)
        | (go_at_call 11; refine t.mono ?_; rintro e w2 ⟨rfl, hb2⟩; clear t; have HB2 : Hid (Below w.heap.size w w2) := ⟨HBr.out.trans ((HB1.out.trans (hb2.mono HB1.out.size)).mono HBr.out.size)⟩; clear hb2))
      go_roundw
      case rel => exact ⟨1, by decide, by go_num, HB2⟩
      case measure => simp [intOf]
    · have HB2 : Hid (Below wr.heap.size wr ((wr.alloc (.cells #[.slice none 0 0] 64)).alloc (.cells #[.int .i64 1] 3))) := ⟨((Below.refl _ wr).alloc (Nat.le_refl _) _).alloc (by simp) _⟩
      have HS0 : Hid (Sheet (wr.alloc (.cells #[.slice none 0 0] 64)) wr.heap.size wr.heap.size []) := ⟨⟨Nat.le_refl _, none, 0, 0, heap_alloc_new wr _, owny_nil _ _⟩⟩
      have t1 := nums_any (w := (wr.alloc (.cells #[.slice none 0 0] 64)).alloc (.cells #[.int .i64 1] 3)) [1] wr.heap.size (wr.heap.size + 1) wr.heap.size 1 [] (HS0.out.below ((Below.refl _ _).alloc (Nat.le_refl _) _)) rfl (by decide) (by simp) (by simp) (by
        rw [iv1]
        have := heap_alloc_new (wr.alloc (.cells #[.slice none 0 0] 64)) (.cells #[.int .i64 1] 3)
        simpa using this)
      obtain ⟨sb, Hsb⟩ : ∃ x, Hid (wr.heap.size = x) := ⟨_, ⟨rfl⟩⟩
      have Hws : Hid (w.heap.size ≤ sb) := ⟨by rw [← Hsb.out]; exact HBr.out.size⟩
      go_upto_region 15 with (go_at_call 28; refine t1.mono ?_; rintro e w3 ⟨rfl, hS3, hb3, _⟩; clear t1; have HS3 : Hid (Sheet w3 sb sb (numsB [1])) := ⟨by rw [← Hsb.out]; simpa using hS3⟩; have HB3 : Hid (Below w.heap.size w w3) := ⟨HBr.out.trans ((HB2.out.trans hb3).mono HBr.out.size)⟩; clear hS3 hb3)
      rw [Hsb.out]
      clear HB2 HS0 HBr
      go_loopw [35] (fun i wq => ∃ k : Nat, k ≤ 1 ∧ i = .int .i64 (k : Int) ∧ Hid (Sheet wq sb sb (numsB (if k = 0 then [1] else [1, 8, T]))) ∧ Hid (Below w.heap.size w wq)) (fun i _ => 1 - (intOf i).toNat)
      case atStart => exact ⟨0, by decide, rfl, HS3, HB3⟩
      case round =>
        clear HS3 HB3
        obtain ⟨k, hk, rfl, HSq, HBq⟩ := hrel
        rcases (by omega : k = 0 ∨ k = 1) with rfl | rfl
        · have HSq0 : Hid (Sheet wr sb sb (numsB [1])) := ⟨HSq.out⟩
          clear HSq
          have HLr : Hid (wr.heap[lb]? = some (.cells (tk (T : Int)) 35 (0, 0))) := ⟨(HBq.out.block lb Hlt.out).trans HL.out⟩
          have Hsl : Hid (sb < wr.heap.size) := ⟨by obtain ⟨_, _, _, _, h2, _⟩ := HSq0.out; exact (Array.getElem?_eq_some_iff.1 h2).1⟩
          have HB5 : Hid (Below wr.heap.size wr ((wr.alloc (.cells (tk (T : Int)) 35)).alloc (.cells #[.int .i64 8] 3))) := ⟨((Below.refl _ wr).alloc (Nat.le_refl _) _).alloc (by simp) _⟩
          have HX5 : Hid (((wr.alloc (.cells (tk (T : Int)) 35)).alloc (.cells #[.int .i64 8] 3)).heap[wr.heap.size]? = some (.cells (tk (T : Int)) 35 (0, 0))) := ⟨(((Below.refl _ (wr.alloc (.cells (tk (T : Int)) 35))).alloc (Nat.le_refl _) _).block _ (by simp)).trans (heap_alloc_new wr _)⟩
          have t5 := nums_any (w := (wr.alloc (.cells (tk (T : Int)) 35)).alloc (.cells #[.int .i64 8] 3)) [8] sb (wr.heap.size + 1) sb 1 (numsB [1]) (HSq0.out.below HB5.out) rfl (by decide) (Nat.le_trans (numsB_len [1] (by simp)) (by decide)) (by simp) (by
            rw [iv1]
            have := heap_alloc_new (wr.alloc (.cells (tk (T : Int)) 35)) (.cells #[.int .i64 8] 3)
            simpa using this)
          have t7 := fun (w : World) => way_tick (w := w)
          go_upto_region 18 with (first
            | (refine wpList_load_row rfl 35 (.tmp 37) rfl lb rfl 35 (tk (T : Int)) (0, 0) _ HLr.out Try.underlying35 rfl info35 ?_)
            | (go_at_call 28; refine t5.mono ?_; rintro e w6 ⟨rfl, hS6, hb6, hk6⟩; clear t5; have HS6 : Hid (Sheet w6 sb sb (numsB [1, 8])) := ⟨by simpa [numsB] using hS6⟩; have HB6 : Hid (Below w.heap.size w w6) := ⟨HBq.out.trans ((HB5.out.mono HBq.out.size).trans (hb6.mono Hws.out))⟩; have HX6 : Hid (w6.heap[wr.heap.size]? = some (.cells (tk (T : Int)) 35 (0, 0))) := ⟨(hk6.2 _ (Array.getElem?_eq_some_iff.1 HX5.out).1 (Nat.ne_of_gt Hsl.out) (fun q => (Ty.ne q ⟨_, HX5.out⟩ (by decide)) rfl)).trans HX5.out⟩; clear hS6 hb6 hk6))
          obtain ⟨xb, Hxb⟩ : ∃ x, Hid (wr.heap.size = x) := ⟨_, ⟨rfl⟩⟩
          rw [Hxb.out] at HX6 ⊢
          have c6 : w6.cell? ⟨xb, 0, none⟩ = some (.int .i64 8) := (cell_of_row _ _ _ _ _ _ HX6.out).trans rfl
          go_upto_region 19 with (first | (refine wpl_field rfl 69 (.tmp 45) 0 rfl _ _ rfl (way_lay _) ?_) | (go_at_call 29; refine (t7 _).mono ?_; rintro e w7 ⟨rfl, hb7⟩; have HB67 : Hid (Below w6.heap.size w6 w7) := ⟨hb7⟩; clear hb7))
          have HX7 : Hid (w7.heap[xb]? = some (.cells (tk (T : Int)) 35 (0, 0))) := ⟨(HB67.out.block xb (Array.getElem?_eq_some_iff.1 HX6.out).1).trans HX6.out⟩
          have t8 := ticked_any (w := w7) T sb sb (numsB [1, 8]) HT.out (HS6.out.below HB67.out) (Nat.le_trans (numsB_len [1, 8] (by simp)) (by decide))
          go_wp2_with (first
            | (refine wpList_load_row rfl 35 (.tmp 9) rfl xb rfl 35 (tk (T : Int)) (0, 0) _ HX7.out Try.underlying35 rfl info35 ?_)
            | (go_at_call 65; refine t8.mono ?_; rintro e w8 ⟨rfl, hS8, hb8, _⟩; clear t8; have HS8 : Hid (Sheet w8 sb sb (numsB [1, 8, T])) := ⟨by simpa [numsB] using hS8⟩; have HB8 : Hid (Below w.heap.size w w8) := ⟨HB6.out.trans ((HB67.out.mono HB6.out.size).trans (hb8.mono Hws.out))⟩; clear hS8 hb8))
          go_roundw
          case rel => exact ⟨1, by decide, by go_num, HS8, HB8⟩
          case measure => simp [intOf]
        · have HSq0 : Hid (Sheet wr sb sb (numsB [1, 8, T])) := ⟨HSq.out⟩
          clear HSq
          obtain ⟨_, va, vn, vc, hsr, hor⟩ := HSq0.out
          have HOr : Hid (OwnY wr sb (.slice va vn vc) (numsB [1, 8, T])) := ⟨hor⟩
          have c1 : wr.cell? ⟨sb, 0, none⟩ = some (.slice va vn vc) := (cell_of_row _ _ _ _ _ _ hsr).trans rfl
          clear hsr hor HSq0
          go_wp2_with fail
          go_ret2
          exact ⟨_, rfl, Oct.OwnB.mono HOr.out Hws.out, HBq.out⟩
end
end Go.Proofs.Ytdcmagdglmmdkaa
