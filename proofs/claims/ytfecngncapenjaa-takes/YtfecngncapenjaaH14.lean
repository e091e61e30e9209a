/- A tree of each byte that is there: treesOf. -/
import Derived.Test.YtfecngncapenjaaH13
namespace Go.Proofs.Ytfecngncapenjaa
open Go.RowKit Oct Go.Lib

/-- What is told of a tree: its count, its least byte, its bytes. -/
abbrev AT := Int × Int × List Int
def pr (s : Sh) : AT := (s.1, s.2.1, s.2.2.2.2.2)
def byt (s : Sh) : List Int := s.2.2.2.2.2
/-- Trees' bytes lie in blocks of their own. -/
def Kids (w : World) (L : List Sh) : Prop := ∀ s ∈ L, OwnY w 0 (sv s.2.2) (byt s)
/-- No block of bytes is among these. -/
def NotB (w : World) (X : List Nat) : Prop := ∀ x ∈ X, x < w.heap.size → ∃ e, Ty w e x ∧ e ≠ 5
theorem own_notB {w w' : World} {v : Value} {l : List Int} {X : List Nat} (h : OwnY w 0 v l) (hc : Chg X w w') (hX : NotB w X) : OwnY w' 0 v l := own_far h hc (fun g hg hm => by
  have h1 := own_ty h hg
  obtain ⟨e, h2, h3⟩ := hX g hm h1.lt
  exact h1.ne h2 (fun e' => h3 e'.symm) rfl)
theorem Kids.far {w w' : World} {L : List Sh} {X : List Nat} (h : Kids w L) (hc : Chg X w w') (hX : NotB w X) : Kids w' L := fun s hs => own_notB (h s hs) hc hX
theorem Kids.below {w w' : World} {L : List Sh} (h : Kids w L) (hb : Below w.heap.size w w') : Kids w' L := h.far (Chg.ofBelow (X := []) hb) (fun x hx => by simp at hx)
theorem Box.notB {w : World} {b base : Nat} {sl : Value} {L : List Sh} (h : Box w b base sl L) : NotB w (b :: ob sl) := fun x hx _ => by
  rcases List.mem_cons.1 hx with rfl | hx
  · exact ⟨43, ⟨_, h.box⟩, by decide⟩
  · exact ⟨46, h.own.ty x hx, by decide⟩
/-- The trees at the beginning. -/
def T0 (f : List Int) : Nat → List AT
  | 0 => []
  | k + 1 => T0 f k ++ (if 0 < f.getD k 0 then [(f.getD k 0, (k : Int), [(k : Int)])] else [])
section
variable {w : World}
set_option maxHeartbeats 8000000 in
set_option maxRecDepth 100000 in
theorem trees22 (f : List Int) (hf : f.length = 256) : Calls Try.prog 22 #[.agg (ia f)] w fun e w' => ∃ sl L, e = .returned sl ∧ OwnE sh3 3 46 w' w.heap.size sl L ∧ (L.map pr).Perm (T0 f 256) ∧ Heap L L.length ∧ Kids w' L ∧ L.length ≤ 256 ∧ Below w.heap.size w w' := by
  have e81 := eg81
  obtain ⟨q, Hq⟩ : ∃ q, Hid (w.heap.size = q) := ⟨_, ⟨rfl⟩⟩
  obtain ⟨w1, Hw1⟩ : ∃ x, Hid (w.alloc (.cells (ia f) 22) = x) := ⟨_, ⟨rfl⟩⟩
  have HB1 : Hid (Below w.heap.size w w1) := ⟨by rw [← Hw1.out]; exact (Below.refl _ w).alloc (Nat.le_refl _) _⟩
  have HX1 : Hid (w1.heap[q]? = some (.cells (ia f) 22 (0, 0))) := ⟨by rw [← Hw1.out, ← Hq.out]; exact heap_alloc_new w _⟩
  have HS1 : Hid (w1.heap.size = q + 1) := ⟨by rw [← Hw1.out, ← Hq.out]; exact Array.size_push _⟩
  obtain ⟨b, Hb⟩ : ∃ b, Hid (q + 1 = b) := ⟨_, ⟨rfl⟩⟩
  obtain ⟨w2, Hw2⟩ : ∃ x, Hid (w1.alloc (.cells #[.slice none 0 0] 43) = x) := ⟨_, ⟨rfl⟩⟩
  have HB2 : Hid (Below q w w2) := ⟨by rw [← Hw2.out, ← Hq.out]; exact HB1.out.alloc HB1.out.size _⟩
  have HX2 : Hid (w2.heap[q]? = some (.cells (ia f) 22 (0, 0))) := ⟨by rw [← Hw2.out]; rw [heap_alloc_old (h := by rw [HS1.out]; omega)]; exact HX1.out⟩
  have HY2 : Hid (Box w2 b q (.slice none 0 0) []) := ⟨⟨by rw [← Hw2.out, ← Hb.out, ← HS1.out]; exact heap_alloc_new w1 _, OwnE.nil _ _ _ _ _⟩⟩
  have HF := Hid.mk hf
  obtain ⟨A, HA⟩ : ∃ A, Hid (ia f = A) := ⟨_, ⟨rfl⟩⟩
  have HI : Hid ((Try.prog.info? 22).map (·.size) = some A.size) := ⟨by rw [← HA.out]; exact info22f hf⟩
  rw [HA.out] at Hw1 HX2
  rw [HA.out]
  clear hf
  go_enter Try.func22, Try.ntmps22
  go_upto_region 2 with (refine wp_box rfl 22 (.tmp 0) rfl A rfl ?_; rw [Hw1.out])
  rw [Hw2.out, HS1.out, Hb.out]
  go_upto_region 3 with (refine wp_load rfl 22 (.tmp 1) rfl q (by rw [← Hq.out]; rfl) A 22 (0, 0) _ HX2.out Try.underlying22 rfl HI.out ?_)
  go_loopg [4, 5, 7] 256 (fun gg _s4 _s5 s7 wr => ∃ k : Nat, k ≤ 256 ∧ 256 - k ≤ gg ∧ s7 = .int .i64 (k : Int) ∧ Hid (Below q w wr) ∧ ∃ sl L, Hid (Box wr b q sl L) ∧ Hid ((L.map pr).Perm (T0 f k)) ∧ Hid (Heap L L.length) ∧ Hid (Kids wr L) ∧ Hid (L.length ≤ k))
  case atStart => exact ⟨0, Nat.zero_le _, by omega, rfl, HB2, _, [], HY2, ⟨List.Perm.refl _⟩, ⟨fun k h0 h1 => by simp at h1⟩, ⟨fun s hs => by cases hs⟩, ⟨Nat.le_refl _⟩⟩
  case round =>
    obtain ⟨k, hk, hgg, rfl, HB, sl, L, HX, HP, HH, HK, HL⟩ := hrel
    rename World => wo
    have hqw : q ≤ wo.heap.size := by rw [← Hq.out]; exact HB.out.size
    by_cases hlt : k < 256
    · have hltz : (k : Int) < 256 := by omega
      obtain ⟨x, Hx⟩ : ∃ x, Hid (f.getD k 0 = x) := ⟨_, ⟨rfl⟩⟩
      by_cases hx : 0 < x
      · have HT : Hid (T0 f (k + 1) = T0 f k ++ [(x, (k : Int), [(k : Int)])]) := ⟨by rw [T0, Hx.out, if_pos hx]⟩
        have hkb : (k : Int) % 256 = (k : Int) := by omega
        obtain ⟨z, Hz⟩ : ∃ z, Hid (wo.heap.size = z) := ⟨_, ⟨rfl⟩⟩
        obtain ⟨w3, Hw3⟩ : ∃ y, Hid (wo.alloc (.cells #[.int .u8 (k : Int)] 5) = y) := ⟨_, ⟨rfl⟩⟩
        have HB3 : Hid (Below wo.heap.size wo w3) := ⟨by rw [← Hw3.out]; exact (Below.refl _ wo).alloc (Nat.le_refl _) _⟩
        have HO3 : Hid (OwnY w3 0 (.slice (some ⟨z, 0, none⟩) 1 1) [(k : Int)]) := ⟨by rw [← Hw3.out, ← Hz.out]; exact own_lit wo 5 0 [(k : Int)] #[.int .u8 (k : Int)] rfl (Nat.zero_le _) (by unfold maxLen; simp)⟩
        have HX3 : Hid (Box w3 b q sl L) := ⟨HX.out.far (Chg.ofBelow (X := []) HB3.out) (by simp) (by simp)⟩
        have HK3 : Hid (Kids w3 L) := ⟨HK.out.below HB3.out⟩
        have t1 := push25 HX3.out (by have := HL.out; omega) (Nat.le_trans hqw HB3.out.size) HH.out x (k : Int) (some ⟨z, 0, none⟩) 1 1 [(k : Int)]
        go_wp2_with (first | (rw [← HA.out]; refine wp_idx rfl (.tmp 6) (.tmp 7) rfl rfl k rfl HF.out hlt ?_; rw [Hx.out, HA.out]))
        rw [Hw3.out, Hz.out]
        refine t1.mono ?_
        rintro e w4 ⟨rfl, sl4, L4, hX4, hP4, hH4, hO4, hC4⟩
        have HX4 := Hid.mk hX4
        have HH4 := Hid.mk hH4
        have HB4 : Hid (Below q w w4) := ⟨(HB.out.trans (HB3.out.mono hqw)).trans (hC4.below (Nat.le_trans hqw HB3.out.size) (fun y hy => by
          rcases List.mem_cons.1 hy with rfl | hy
          · have := Hb.out; omega
          · exact (HX3.out.own.lt y hy).1))⟩
        have HP4 : Hid ((L4.map pr).Perm (T0 f (k + 1))) := ⟨by
          rw [HT.out]
          refine (hP4.map pr).trans ?_
          rw [List.map_append]
          exact HP.out.append_right _⟩
        have HK4 : Hid (Kids w4 L4) := ⟨fun s hs => by
          rcases List.mem_append.1 (hP4.mem_iff.1 hs) with h | h
          · exact own_notB (HK3.out s h) hC4 HX3.out.notB
          · simp at h
            subst h
            exact own_notB HO3.out hC4 HX3.out.notB⟩
        have HL4 : Hid (L4.length ≤ k + 1) := ⟨by rw [hP4.length_eq, List.length_append]; have := HL.out; simp; omega⟩
        clear t1 hX4 hP4 hH4 hO4 hC4
        go_wp2_with fail
        go_roundg (256 - (k + 1))
        case measure => omega
        case rel => exact ⟨k + 1, by omega, by omega, by go_num, HB4, sl4, L4, HX4, HP4, HH4, HK4, HL4⟩
      · have HT : Hid (T0 f (k + 1) = T0 f k) := ⟨by rw [T0, Hx.out, if_neg hx, List.append_nil]⟩
        go_wp2_with (first | (rw [← HA.out]; refine wp_idx rfl (.tmp 6) (.tmp 7) rfl rfl k rfl HF.out hlt ?_; rw [Hx.out, HA.out]))
        go_roundg (256 - (k + 1))
        case measure => omega
        case rel => exact ⟨k + 1, by omega, by omega, by go_num, HB, sl, L, HX, ⟨by rw [HT.out]; exact HP.out⟩, HH, HK, ⟨Nat.le_succ_of_le HL.out⟩⟩
    · obtain rfl : k = 256 := by omega
      have c1 := HX.out.cell
      go_wp2_with fail
      go_ret
      exact ⟨sl, L, rfl, by rw [Hq.out]; exact HX.out.own, HP.out, HH.out, HK.out, HL.out, by rw [Hq.out]; exact HB.out⟩
end
end Go.Proofs.Ytfecngncapenjaa
