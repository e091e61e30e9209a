/- What stands ahead of the words: putHead. -/
import Derived.Test.YtfecngncapenjaaH13
namespace Go.Proofs.Ytfecngncapenjaa
open Go.RowKit Oct

/-- The table's rows, of the first bytes. -/
def hdR (f : List Int) : Nat → List Int
  | 0 => []
  | k + 1 => hdR f k ++ if 0 < f.getD k 0 then [(k : Int), f.getD k 0] else []
theorem hdR_len (f : List Int) : ∀ k, (hdR f k).length ≤ 2 * k
  | 0 => Nat.le_refl _
  | k + 1 => by
    have := hdR_len f k
    rw [hdR, List.length_append]
    by_cases h : 0 < f.getD k 0
    · rw [if_pos h]; simp only [List.length_cons, List.length_nil]; omega
    · rw [if_neg h]; simp only [List.length_nil]; omega
def hdB (f : List Int) (n : Nat) : List Int := numB n ++ numB ((hdR f 256).length / 2) ++ hdR f 256
theorem numB_len (n : Nat) : (numB n).length ≤ n + 1 := by
  induction n using Nat.strongRecOn with
  | ind n ih =>
    by_cases h : n < 128
    · rw [numB_small n h]; simp
    · rw [numB_big n h, List.length_cons]
      have := ih (n / 128) (by omega)
      omega
section
variable {w : World}
set_option maxHeartbeats 8000000 in
set_option maxRecDepth 100000 in
theorem head32 (n : Nat) (f : List Int) (hf : f.length = 256) (hs : ∀ i, f.getD i 0 ≤ 255) (hn : n ≤ 8192) : Calls Try.prog 32 #[.int .i64 (n : Int), .agg (ia f)] w fun e w' => ∃ v, e = .returned v ∧ OwnY w' w.heap.size v (hdB f n) ∧ Below w.heap.size w w' := by
  obtain ⟨q, Hq⟩ : ∃ q, Hid (w.heap.size = q) := ⟨_, ⟨rfl⟩⟩
  obtain ⟨w1, Hw1⟩ : ∃ x, Hid (w.alloc (.cells (ia f) 22) = x) := ⟨_, ⟨rfl⟩⟩
  have HB1 : Hid (Below q w w1) := ⟨by rw [← Hw1.out, ← Hq.out]; exact (Below.refl _ w).alloc (Nat.le_refl _) _⟩
  have HX1 : Hid (w1.heap[q]? = some (.cells (ia f) 22 (0, 0))) := ⟨by rw [← Hw1.out, ← Hq.out]; exact heap_alloc_new w _⟩
  have HF := Hid.mk hf
  have HSm := Hid.mk hs
  obtain ⟨A, HA⟩ : ∃ A, Hid (ia f = A) := ⟨_, ⟨rfl⟩⟩
  have HI : Hid ((Try.prog.info? 22).map (·.size) = some A.size) := ⟨by rw [← HA.out]; exact info22f hf⟩
  rw [HA.out] at Hw1 HX1
  rw [HA.out]
  clear hf hs
  go_enter Try.func32, Try.ntmps32
  go_upto_region 3 with (first | (refine wp_box rfl 22 (.tmp 1) rfl A rfl ?_; rw [Hw1.out]) | (refine wp_load rfl 22 (.tmp 3) rfl q (by rw [← Hq.out]; rfl) A 22 (0, 0) _ HX1.out Try.underlying22 rfl HI.out ?_))
  go_loopg [5, 6, 7, 13] 256 (fun gg s5 _s6 _s7 s13 wr => ∃ k : Nat, k ≤ 256 ∧ 256 - k ≤ gg ∧ s13 = .int .i64 (k : Int) ∧ Hid (OwnY wr q s5 (hdR f k)) ∧ Hid (Below q w wr))
  case atStart => exact ⟨0, Nat.zero_le _, by omega, rfl, ⟨owny_nil _ _⟩, HB1⟩
  case round =>
    obtain ⟨k, hk, hgg, rfl, HO, HB⟩ := hrel
    rename World => wo
    have hqw : q ≤ wo.heap.size := by rw [← Hq.out]; exact (show w.heap.size ≤ wo.heap.size from HB.out.size)
    obtain ⟨ra, rc, e, _⟩ := HO.out.shape
    subst e
    have HLn := Hid.mk (hdR_len f k)
    obtain ⟨rn, Hrn⟩ : ∃ x, Hid ((hdR f k).length = x) := ⟨_, ⟨rfl⟩⟩
    rw [Hrn.out] at HO HLn
    rw [Hrn.out]
    by_cases hlt : k < 256
    · have hltz : (k : Int) < 256 := by omega
      have hx255 := HSm.out k
      have HN : Hid (hdR f (k + 1) = hdR f k ++ if 0 < f.getD k 0 then [(k : Int), f.getD k 0] else []) := ⟨rfl⟩
      obtain ⟨x, Hx⟩ : ∃ x, Hid (f.getD k 0 = x) := ⟨_, ⟨rfl⟩⟩
      rw [Hx.out] at hx255 HN
      by_cases hx : 0 < x
      · rw [if_pos hx] at HN
        have hkb : (k : Int) % 256 = (k : Int) := by omega
        have hxb : x % 256 = x := by omega
        obtain ⟨z, Hz⟩ : ∃ z, Hid (wo.heap.size = z) := ⟨_, ⟨rfl⟩⟩
        have HB3 : Hid (Below wo.heap.size wo (wo.alloc (.cells #[.int .u8 (k : Int), .int .u8 x] 5))) := ⟨(Below.refl _ wo).alloc (Nat.le_refl _) _⟩
        have HR3 : Hid (RdY (wo.alloc (.cells #[.int .u8 (k : Int), .int .u8 x] 5)) (.slice (some ⟨z, 0, none⟩) 2 2) [(k : Int), x]) := ⟨by rw [← Hz.out]; exact OwnY.rd (base := 0) (own_lit wo 5 0 [(k : Int), x] #[.int .u8 (k : Int), .int .u8 x] rfl (Nat.zero_le _) (by unfold maxLen; simp))⟩
        have HO3 : Hid (OwnY (wo.alloc (.cells #[.int .u8 (k : Int), .int .u8 x] 5)) q (.slice ra rn rc) (hdR f k)) := ⟨HO.out.far' HB3.out⟩
        go_wp2_with (first | (rw [← HA.out]; refine wp_idx rfl (.tmp 12) (.tmp 13) rfl rfl k rfl HF.out hlt ?_; rw [Hx.out, HA.out]) | (at_builtin; rw [Hz.out]; refine wp_appY rfl (.tmp 19) (.tmp 24) rfl rfl HO3.out rfl HR3.out (by have := HLn.out; rw [Hrn.out]; simp only [List.length_cons, List.length_nil]; omega) (Nat.le_trans hqw HB3.out.size) ?_; intro v4 w4 hO4 hG4 hV4))
        have HO4 : Hid (OwnY w4 q v4 (hdR f (k + 1))) := ⟨by rw [HN.out]; exact hO4⟩
        have HB4 : Hid (Below q w w4) := ⟨(HB.out.trans (HB3.out.mono hqw)).trans (hG4.below (Nat.le_trans hqw HB3.out.size) (fun y hy => (World.ownsRow.lt HO3.out y (mem_ob.1 hy)).1))⟩
        clear hO4 hG4 hV4
        go_roundg (256 - (k + 1))
        case measure => omega
        case rel => exact ⟨k + 1, by omega, by omega, by go_num, HO4, HB4⟩
      · rw [if_neg hx, List.append_nil] at HN
        go_wp2_with (first | (rw [← HA.out]; refine wp_idx rfl (.tmp 12) (.tmp 13) rfl rfl k rfl HF.out hlt ?_; rw [Hx.out, HA.out]))
        go_roundg (256 - (k + 1))
        case measure => omega
        case rel => exact ⟨k + 1, by omega, by omega, by go_num, ⟨by rw [HN.out]; exact HO.out⟩, HB⟩
    · obtain rfl : k = 256 := by omega
      have t1 := num_good n wo (by omega)
      obtain ⟨u, Hu⟩ : ∃ u : Nat, Hid (rn / 2 = u) := ⟨_, ⟨rfl⟩⟩
      have hrn := HLn.out
      have hwu : IntKind.i64.wrap ((rn : Int) / 2) = (u : Int) := by rw [show (rn : Int) / 2 = (u : Int) by have := Hu.out; omega]; exact IntWalk.i64_in _ ⟨by omega, by have := Hu.out; omega⟩
      have hu9 : u ≤ 9007199254740991 := by have := Hu.out; omega
      go_wp2_with fail
      refine t1.mono ?_
      rintro e w5 ⟨v5, rfl, hO5, hB5⟩
      have HO5 : Hid (OwnY w5 wo.heap.size v5 (numB n)) := ⟨hO5⟩
      have HB5 := Hid.mk hB5
      obtain ⟨a5, c5, e, _⟩ := HO5.out.shape
      subst e
      obtain ⟨n5, Hn5⟩ : ∃ x, Hid ((numB n).length = x) := ⟨_, ⟨rfl⟩⟩
      rw [Hn5.out] at HO5 ⊢
      have t2 := num_good u w5 hu9
      clear t1 hO5 hB5
      go_wp2_with fail
      refine t2.mono ?_
      rintro e w6 ⟨v6, rfl, hO6, hB6⟩
      have HO6 : Hid (OwnY w6 w5.heap.size v6 (numB u)) := ⟨hO6⟩
      have HB6 := Hid.mk hB6
      obtain ⟨a6, c6, e, _⟩ := HO6.out.shape
      subst e
      obtain ⟨n6, Hn6⟩ : ∃ x, Hid ((numB u).length = x) := ⟨_, ⟨rfl⟩⟩
      rw [Hn6.out] at HO6 ⊢
      have HP6 : Hid (OwnY w6 wo.heap.size (.slice a5 n5 c5) (numB n)) := ⟨HO5.out.far' HB6.out⟩
      have HR6 : Hid (OwnY w6 q (.slice ra rn rc) (hdR f 256)) := ⟨(HO.out.far' HB5.out).far' HB6.out⟩
      clear t2 hO6 hB6
      have HLl : Hid ((numB n).length ≤ 8193) := ⟨Nat.le_trans (numB_len n) (by omega)⟩
      have HLu : Hid ((numB u).length ≤ 1000) := ⟨Nat.le_trans (numB_len u) (by have := Hu.out; omega)⟩
      go_wp2_with (first
        | (at_builtin; refine wp_appY (xs := numB n) (ys := numB u) rfl (.tmp 39) (.tmp 40) rfl rfl HP6.out rfl HO6.out.rd (by have := HLl.out; have := HLu.out; omega) (Nat.le_trans HB5.out.size HB6.out.size) ?_; intro v7 w7 hO7 hG7 hV7
           have HO7 : Hid (OwnY w7 wo.heap.size v7 (numB n ++ numB u)) := ⟨hO7⟩
           obtain ⟨a7, c7, e7, _⟩ := HO7.out.shape
           subst e7
           obtain ⟨n7, Hn7⟩ : ∃ x, Hid ((numB n ++ numB u).length = x) := ⟨_, ⟨rfl⟩⟩
           rw [Hn7.out] at HO7 ⊢
           have HC7 : Hid (Below wo.heap.size w6 w7) := ⟨hG7.below (Nat.le_trans HB5.out.size HB6.out.size) (fun y hy => (World.ownsRow.lt HP6.out y (mem_ob.1 hy)).1)⟩
           have HR7 : Hid (OwnY w7 q (.slice ra rn rc) (hdR f 256)) := ⟨own_far HR6.out hG7 (fun g hg hm => by
             have h1 := (World.ownsRow.lt HO.out g hg).2
             have h2 := (World.ownsRow.lt HP6.out g (mem_ob.1 hm)).1
             omega)⟩
           have hsz7 : wo.heap.size ≤ w7.heap.size := Nat.le_trans (Nat.le_trans HB5.out.size HB6.out.size) HC7.out.size
           clear hO7 hG7 hV7)
        | (at_builtin; refine wp_appY (xs := numB n ++ numB u) (ys := hdR f 256) rfl (.tmp 41) (.tmp 42) rfl rfl HO7.out rfl HR7.out.rd (by have := HLl.out; have := HLu.out; rw [Hrn.out, List.length_append]; omega) hsz7 ?_; intro v8 w8 hO8 hG8 hV8))
      go_ret
      refine ⟨v8, rfl, ?_, ?_⟩
      · unfold hdB
        rw [Hrn.out, Hu.out, Hq.out]
        exact own_base hO8 (fun g hg => Nat.le_trans hqw (World.ownsRow.lt hO8 g hg).1)
      · rw [Hq.out]
        refine ((HB.out.trans (HB5.out.mono hqw)).trans (HB6.out.mono (Nat.le_trans hqw HB5.out.size))).trans ?_
        refine (HC7.out.mono hqw).trans (hG8.below (Nat.le_trans hqw hsz7) (fun y hy => Nat.le_trans hqw (World.ownsRow.lt HO7.out y (mem_ob.1 hy)).1))
end
end Go.Proofs.Ytfecngncapenjaa
