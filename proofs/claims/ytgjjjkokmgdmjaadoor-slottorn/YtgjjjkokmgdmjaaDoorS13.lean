/- Both sectors of a cell that is ready, as they are read. -/
import Derived.Test.YtgjjjkokmgdmjaaDoorS12
namespace Go.Proofs.YtgjjjkokmgdmjaaDoor
open Go.RowKit
/-- A cell's two sectors. -/
def sc0 (d : Dk.Dk) (b : Nat) : List Int := Dk.now (Dk.sec d.S b)
def lkL (l0 l1 : List Int) : Nat → List Int
  | 0 => zz
  | 1 => l0 ++ Dk.zp
  | _ => l0 ++ l1
theorem pv_pa (l : List Int) : Dk.pv l = .agg (Dk.pa l) := rfl
theorem lk_put0 {l0 l1 : List Int} (h0 : l0.length = 128) : ((Dk.pa (lkL l0 l1 0)).toList.take 0 ++ Dk.pc l0 ++ (Dk.pa (lkL l0 l1 0)).toList.drop (0 + (Dk.pc l0).length)).toArray = Dk.pa (lkL l0 l1 1) := by
  have e : (Dk.pc l0).length = 128 := by rw [Dk.pc_length, h0]
  rw [e]
  unfold lkL Dk.pa Dk.pc zz
  congr 1
  simp only [List.take_zero, List.nil_append, List.map_append, Nat.zero_add]
  congr 1
theorem lk_put1 {l0 l1 : List Int} (h0 : l0.length = 128) (h1 : l1.length = 128) : ((Dk.pa (lkL l0 l1 1)).toList.take 128 ++ Dk.pc l1 ++ (Dk.pa (lkL l0 l1 1)).toList.drop (128 + (Dk.pc l1).length)).toArray = Dk.pa (lkL l0 l1 2) := by
  have e : (Dk.pc l1).length = 128 := by rw [Dk.pc_length, h1]
  rw [e]
  have e0 : (l0.map (Value.int .u8)).length = 128 := by rw [List.length_map, h0]
  unfold lkL Dk.pa Dk.pc
  congr 1
  simp only [List.map_append]
  rw [List.take_append_of_le_length (by omega), List.take_of_length_le (by omega), List.drop_of_length_le (by simp [Dk.zp, e0])]
  simp
theorem lk_len {l0 l1 : List Int} (h0 : l0.length = 128) (h1 : l1.length = 128) (k : Nat) : (lkL l0 l1 k).length = 256 := by
  unfold lkL
  split
  · exact zz_len
  · simp [Dk.zp, h0]
  · simp [h0, h1]

section
variable {w : World} {q p g bm base b : Nat} {d : Dk.Dk}
theorem CellAt.below {w w' : World} {bs lf : Int} (h : CellAt w q p bs lf) (hb : Below w.heap.size w w') : CellAt w' q p bs lf := (hb.block q (Array.getElem?_eq_some_iff.1 h).1).trans h
theorem wrap_b (x : Int) (h0 : 0 ≤ x) (h1 : x ≤ 9223372036854775807) : IntKind.i64.wrap x = x := by
  rw [IntKind.wrap_i64]; omega
theorem pg_sc0 (h : Dk.At w p g bm base d) (i : Nat) : Dk.Pg (sc0 d i) := by
  obtain ⟨_, _, _, _, q⟩ := h
  exact Dk.pg_now (Dk.ok_sec q.ok i)
theorem rdE_at (hd : d.down = false) {i : Nat} {j : Int} (hj : j = (i : Int)) (hi : i < d.S.length) : Dk.rdE d j = 0 := by
  subst hj
  unfold Dk.rdE
  rw [hd, if_neg (by simp), if_pos ⟨by omega, by omega⟩]
theorem rdB_at (hd : d.down = false) {i : Nat} {j : Int} (hj : j = (i : Int)) (hi : i < d.S.length) : Dk.rdB d j = sc0 d i := by
  subst hj
  unfold Dk.rdB
  rw [hd, if_neg (by simp), if_pos ⟨by omega, by omega⟩]
  rfl
set_option maxHeartbeats 8000000 in
set_option maxRecDepth 100000 in
theorem look_any (h : Dk.At w p g bm base d) (hc : CellAt w q p (b : Int) d.life) (hd : d.down = false) (hbl : b + 2 ≤ d.S.length) :
    Calls Tryd.prog 21 #[.pointer (some ⟨q, 0, none⟩)] w fun e w' => e = .returned (.tuple #[.agg (Dk.pa (sc0 d b ++ sc0 d (b + 1))), .int .i64 0]) ∧ Below w.heap.size w w' := by
  have hlen : b ≤ 4096 := by obtain ⟨_, _, _, _, q⟩ := h; have := q.len; omega
  have HA : Hid (Dk.At w p g bm base d) := ⟨h⟩
  have HC : Hid (CellAt w q p (b : Int) d.life) := ⟨hc⟩
  have P0 := pg_sc0 h b
  have P1 := pg_sc0 h (b + 1)
  have HE0 : Hid (Dk.rdE d (b : Int) = 0) := ⟨rdE_at hd (i := b) rfl (by omega)⟩
  have HE1 : Hid (Dk.rdE d ((b : Int) + 1) = 0) := ⟨rdE_at hd (i := b + 1) (by omega) (by omega)⟩
  have HR0 : Hid (Dk.rdB d (b : Int) = sc0 d b) := ⟨rdB_at hd (i := b) rfl (by omega)⟩
  have HR1 : Hid (Dk.rdB d ((b : Int) + 1) = sc0 d (b + 1)) := ⟨rdB_at hd (i := b + 1) (by omega) (by omega)⟩
  obtain ⟨l0, Hl0⟩ : ∃ l, Hid (sc0 d b = l) := ⟨_, ⟨rfl⟩⟩
  obtain ⟨l1, Hl1⟩ : ∃ l, Hid (sc0 d (b + 1) = l) := ⟨_, ⟨rfl⟩⟩
  rw [Hl0.out] at P0 HR0 ⊢
  rw [Hl1.out] at P1 HR1 ⊢
  have H0 : Hid (Dk.Pg l0) := ⟨P0⟩
  have H1 : Hid (Dk.Pg l1) := ⟨P1⟩
  clear h hc P0 P1 hbl
  obtain ⟨r, Hb⟩ : ∃ b, Hid (w.heap.size = b) := ⟨_, ⟨rfl⟩⟩
  obtain ⟨w1, Hw1⟩ : ∃ w1, Hid (w.alloc (.cells (Dk.pa zz) 60) = w1) := ⟨_, ⟨rfl⟩⟩
  have HRo1 : Hid (w1.heap[r]? = some (.cells (Dk.pa zz) 60 (0, 0))) := ⟨by rw [← Hw1.out, ← Hb.out]; exact heap_alloc_new w _⟩
  have HB1 : Hid (Below w.heap.size w w1) := ⟨by rw [← Hw1.out]; exact (Below.refl _ w).alloc (Nat.le_refl _) _⟩
  have Hs1 : Hid (w1.heap.size = r + 1) := ⟨by rw [← Hw1.out, ← Hb.out]; simp⟩
  obtain ⟨s, Hs⟩ : ∃ s, Hid (w1.heap.size = s) := ⟨_, ⟨rfl⟩⟩
  have Hrs : Hid (s = r + 1) := ⟨by have := Hs1.out; have := Hs.out; omega⟩
  obtain ⟨w2, Hw2⟩ : ∃ w2, Hid (w1.alloc (.cells (Dk.pa zz) 60) = w2) := ⟨_, ⟨rfl⟩⟩
  have HS2 : Hid (w2.heap[s]? = some (.cells (Dk.pa zz) 60 (0, 0))) := ⟨by rw [← Hw2.out, ← Hs.out]; exact heap_alloc_new w1 _⟩
  have HB12 : Hid (Below w1.heap.size w1 w2) := ⟨by rw [← Hw2.out]; exact (Below.refl _ w1).alloc (Nat.le_refl _) _⟩
  have HB2 : Hid (Below w.heap.size w w2) := ⟨HB1.out.trans (HB12.out.mono HB1.out.size)⟩
  have HRo2 : Hid (w2.heap[r]? = some (.cells (Dk.pa zz) 60 (0, 0))) := ⟨(HB12.out.block r (Array.getElem?_eq_some_iff.1 HRo1.out).1).trans HRo1.out⟩
  have t1 := cready_any (HA.out.below HB2.out) (CellAt.below HC.out HB2.out)
  have er : rdy d d.life = 0 := by unfold rdy; rw [if_pos rfl, hd]; rfl
  rw [er] at t1
  clear er
  have hi60 : (Tryd.prog.info? 60).map (·.size) = some (Dk.pa zz).size := by rw [Dk.pa_size, zz_len]; exact info60
  have HB3 : Hid (Below w.heap.size w w2.drew) := ⟨HB2.out.drew⟩
  go_enter Tryd.func21, Tryd.ntmps21
  go_upto_region 2 with (refine wpl_alloc60 rfl rfl ?_)
  rw [Hw1.out]
  first | rw [Hw2.out] | skip
  first | rw [Hb.out] | skip
  have es : r + 1 = s := Hrs.out.symm
  first | rw [Hs.out] | rw [es]
  clear es
  go_upto_region 5 with (go_at_call 34; refine t1.mono ?_; rintro e w3 ⟨rfl, e3⟩; have HB3 : Hid (Below w.heap.size w w3) := ⟨by rw [← e3]; exact HB2.out.drew⟩; have HS3 : Hid (w3.heap[s]? = some (.cells (Dk.pa zz) 60 (0, 0))) := ⟨by rw [← e3]; exact HS2.out⟩; have HRo3 : Hid (w3.heap[r]? = some (.cells (Dk.pa zz) 60 (0, 0))) := ⟨by rw [← e3]; exact HRo2.out⟩; clear e3 t1)
  go_wp2_with fail
  go_loopg [15] 2 (fun gg s15 wr => ∃ k : Nat, k ≤ 2 ∧ 2 - k ≤ gg ∧ s15 = .int .i64 (k : Int) ∧ Hid (wr.heap[s]? = some (.cells (Dk.pa (lkL l0 l1 k)) 60 (0, 0))) ∧ Hid (wr.heap[r]? = some (.cells (Dk.pa zz) 60 (0, 0))) ∧ Hid (Below w.heap.size w wr))
  case atStart => exact ⟨0, by decide, by decide, rfl, HS3, HRo3, HB3⟩
  case round =>
    obtain ⟨k, hk, hgg, rfl, HSr, HRr, HBr⟩ := hrel
    rcases (by omega : k = 0 ∨ k = 1 ∨ k = 2) with rfl | rfl | rfl
    · have HCr : Hid (CellAt wr q p (b : Int) d.life) := ⟨CellAt.below HC.out HBr.out⟩
      obtain ⟨hc0, hc1, hc2⟩ := HCr.out.cells
      have t5 := Dk.read_any (w := wr.drew) ((HA.out.below HBr.out).below (Below.refl _ _).drew) (b : Int)
      rw [HE0.out, HR0.out] at t5
      have hi60 : (Tryd.prog.info? 60).map (·.size) = some (Dk.pa zz).size := by rw [Dk.pa_size, zz_len]; exact info60
      go_upto_region 8 with fail
      refine wp_region_held_drew (S := (fun w' => w'.cell? ⟨q, 0, none⟩ = some (.pointer (some ⟨p, 0, none⟩)) ∧ w'.cell? ⟨q, 1, none⟩ = some (.int .i64 (b : Int)))) (by kernel_rfl) ⟨hc0, hc1⟩ (fun hS => ?_)
      refine wpAnyH_take (i := 0) (v := .pointer (some ⟨q, 0, none⟩)) rfl (by kernel_rfl) (by kernel_rfl) (by kernel_rfl) (fun _ _ _ h => h) (Or.inl ⟨by kernel_rfl, fun _ _ => by kernel_rfl⟩) hS ?_
      refine wpAnyH_take (i := 1) (v := .pointer (some ⟨q, 0, none⟩)) rfl (by kernel_rfl) (by kernel_rfl) (by kernel_rfl) (fun _ _ _ h => h) (Or.inl ⟨by kernel_rfl, fun wx hx => by go_simp⟩) hS ?_
      refine wpAnyH_take (i := 2) (v := .pointer (some ⟨q, 0, none⟩)) rfl (by kernel_rfl) (by kernel_rfl) (by kernel_rfl) (fun _ _ _ h => h) (Or.inl ⟨by kernel_rfl, fun wx hx => by go_simp⟩) hS ?_
      refine wpAnyH_take (i := 3) (v := .pointer (some ⟨p, 0, none⟩)) rfl (by kernel_rfl) (by kernel_rfl) (by kernel_rfl) (fun _ _ _ h => h) (Or.inl ⟨by kernel_rfl, fun wx hx => by obtain ⟨k0, k1⟩ := hx; go_simp⟩) hS ?_
      refine wpAnyH_take (i := 4) (v := .pointer (some ⟨q, 0, none⟩)) rfl (by kernel_rfl) (by kernel_rfl) (by kernel_rfl) (fun _ _ _ h => h) (Or.inl ⟨by kernel_rfl, fun _ _ => by kernel_rfl⟩) hS ?_
      refine wpAnyH_take (i := 5) (v := .pointer (some ⟨q, 0, none⟩)) rfl (by kernel_rfl) (by kernel_rfl) (by kernel_rfl) (fun _ _ _ h => h) (Or.inl ⟨by kernel_rfl, fun wx hx => by go_simp⟩) hS ?_
      refine wpAnyH_take (i := 6) (v := .pointer (some ⟨q, 1, none⟩)) rfl (by kernel_rfl) (by kernel_rfl) (by kernel_rfl) (fun _ _ _ h => h) (Or.inl ⟨by kernel_rfl, fun wx hx => by go_simp⟩) hS ?_
      refine wpAnyH_take (i := 7) (v := .int .i64 (b : Int)) rfl (by kernel_rfl) (by kernel_rfl) (by kernel_rfl) (fun _ _ _ h => h) (Or.inl ⟨by kernel_rfl, fun wx hx => by obtain ⟨k0, k1⟩ := hx; go_simp⟩) hS ?_
      refine wpAnyH_take (i := 8) (v := .int .i64 ((0 : Nat) : Int)) rfl (by kernel_rfl) (by kernel_rfl) (by kernel_rfl) (fun _ _ _ h => h) (Or.inl ⟨by kernel_rfl, fun _ _ => by kernel_rfl⟩) hS ?_
      refine wpAnyH_take (i := 9) (v := .int .i64 (b : Int)) rfl (by kernel_rfl) (by kernel_rfl) (by kernel_rfl) (fun _ _ _ h => h) (Or.inl ⟨by kernel_rfl, fun wx hx => by go_simp; exact wrap_b (b : Int) (by omega) (by omega)⟩) hS ?_
      refine wpAnyH_ready (rs := [10]) (by kernel_rfl) (by simp) (AllReadyH.cons rfl (fun Kc hK => ?_) AllReadyH.nil)
      go_simp
      refine t5.mono ?_
      rintro e w6 ⟨v6, rfl, hO6, hB6⟩
      clear t5
      obtain ⟨a6, c6, rfl⟩ := Oc.OwnB.slice hO6
      have HO6 : Hid (OwnB w6 wr.drew.heap.size (.slice a6 l0.length c6) l0) := ⟨hO6⟩
      have HBr6 : Hid (Below wr.heap.size wr w6) := ⟨(Below.refl _ wr).drew.trans hB6⟩
      clear hO6 hB6
      have HC6 : Hid (CellAt w6 q p (b : Int) d.life) := ⟨CellAt.below HCr.out HBr6.out⟩
      refine hK.out _ _ ⟨HC6.out.cells.1, HC6.out.cells.2.1⟩ (fun hS => ?_)
      clear hK
      refine wpAnyH_take (i := 11) (v := .tuple #[.slice a6 l0.length c6, .int .i64 0]) rfl (by kernel_rfl) (by kernel_rfl) (by kernel_rfl) (fun _ _ _ h => h) (Or.inl ⟨by kernel_rfl, fun _ _ => by kernel_rfl⟩) hS ?_
      refine wpAnyH_take (i := 12) (v := .slice a6 l0.length c6) rfl (by kernel_rfl) (by kernel_rfl) (by kernel_rfl) (fun _ _ _ h => h) (Or.inl ⟨by kernel_rfl, fun wx hx => by go_simp⟩) hS ?_
      refine wpAnyH_take (i := 13) (v := .int .i64 0) rfl (by kernel_rfl) (by kernel_rfl) (by kernel_rfl) (fun _ _ _ h => h) (Or.inl ⟨by kernel_rfl, fun wx hx => by go_simp⟩) hS ?_
      refine wpAnyH_take (i := 14) (v := .slice a6 l0.length c6) rfl (by kernel_rfl) (by kernel_rfl) (by kernel_rfl) (fun _ _ _ h => h) (Or.inl ⟨by kernel_rfl, fun _ _ => by kernel_rfl⟩) hS ?_
      refine wpAnyH_take (i := 15) (v := .int .i64 0) rfl (by kernel_rfl) (by kernel_rfl) (by kernel_rfl) (fun _ _ _ h => h) (Or.inl ⟨by kernel_rfl, fun _ _ => by kernel_rfl⟩) hS ?_
      refine wpAnyH_done (by kernel_rfl) ?_ _
      clear hS hc0 hc1 hc2
      go_simp
      have t6 := parted_any (w := w6) _ l0 H0.out.1 (Oc.OwnB.bs HO6.out)
      have HS6 : Hid (w6.heap[s]? = some (.cells (Dk.pa (lkL l0 l1 0)) 60 (0, 0))) := ⟨(HBr6.out.block s (Array.getElem?_eq_some_iff.1 HSr.out).1).trans HSr.out⟩
      have HR6 : Hid (w6.heap[r]? = some (.cells (Dk.pa zz) 60 (0, 0))) := ⟨(HBr6.out.block r (Array.getElem?_eq_some_iff.1 HRr.out).1).trans HRr.out⟩
      have HB6 : Hid (Below w.heap.size w w6) := ⟨HBr.out.trans (HBr6.out.mono HBr.out.size)⟩
      go_upto_region 12 with (first
        | (go_at_call 35; refine t6.mono ?_; rintro e w7 ⟨rfl, hB7⟩; have HB67 : Hid (Below w6.heap.size w6 w7) := ⟨hB7⟩; clear hB7 t6; have HS7 : Hid (w7.heap[s]? = some (.cells (Dk.pa (lkL l0 l1 0)) 60 (0, 0))) := ⟨(HB67.out.block s (Array.getElem?_eq_some_iff.1 HS6.out).1).trans HS6.out⟩)
        | (refine Dk.wpList_store_page rfl 59 _ _ rfl s 0 l0 (by kernel_rfl) (by kernel_rfl) 60 (Dk.pa (lkL l0 l1 0)) HS7.out (by rw [H0.out.1]; exact info59) (by rw [Dk.pc_length, H0.out.1, Dk.pa_size, lk_len H0.out.1 H1.out.1]; decide) ?_; rw [lk_put0 H0.out.1]))
      have HR7 : Hid (w7.heap[r]? = some (.cells (Dk.pa zz) 60 (0, 0))) := ⟨(HB67.out.block r (Array.getElem?_eq_some_iff.1 HR6.out).1).trans HR6.out⟩
      obtain ⟨w8, Hw8⟩ : ∃ x, Hid (w7.setRow s (Dk.pa (lkL l0 l1 1)) = x) := ⟨_, ⟨rfl⟩⟩
      rw [Hw8.out]
      have HS8 : Hid (w8.heap[s]? = some (.cells (Dk.pa (lkL l0 l1 1)) 60 (0, 0))) := ⟨by rw [← Hw8.out]; exact setRow_heap _ _ _ _ 60 (0, 0) HS7.out⟩
      have HR8 : Hid (w8.heap[r]? = some (.cells (Dk.pa zz) 60 (0, 0))) := ⟨by rw [← Hw8.out, setRow_other _ _ _ _ (by have := Hrs.out; omega)]; exact HR7.out⟩
      have HB8 : Hid (Below w.heap.size w w8) := ⟨by rw [← Hw8.out]; exact Dk.below_setRow' (HB6.out.trans (HB67.out.mono HB6.out.size)) (by have := Hrs.out; have := Hb.out; omega) _⟩
      go_wp2_with fail
      go_roundg 1
      case measure => omega
      case rel => exact ⟨1, by decide, by decide, by go_num, HS8, HR8, HB8⟩
    · have HCr : Hid (CellAt wr q p (b : Int) d.life) := ⟨CellAt.below HC.out HBr.out⟩
      obtain ⟨hc0, hc1, hc2⟩ := HCr.out.cells
      have t5 := Dk.read_any (w := wr.drew) ((HA.out.below HBr.out).below (Below.refl _ _).drew) ((b : Int) + 1)
      rw [HE1.out, HR1.out] at t5
      have hi60 : (Tryd.prog.info? 60).map (·.size) = some (Dk.pa zz).size := by rw [Dk.pa_size, zz_len]; exact info60
      go_upto_region 8 with fail
      refine wp_region_held_drew (S := (fun w' => w'.cell? ⟨q, 0, none⟩ = some (.pointer (some ⟨p, 0, none⟩)) ∧ w'.cell? ⟨q, 1, none⟩ = some (.int .i64 (b : Int)))) (by kernel_rfl) ⟨hc0, hc1⟩ (fun hS => ?_)
      refine wpAnyH_take (i := 0) (v := .pointer (some ⟨q, 0, none⟩)) rfl (by kernel_rfl) (by kernel_rfl) (by kernel_rfl) (fun _ _ _ h => h) (Or.inl ⟨by kernel_rfl, fun _ _ => by kernel_rfl⟩) hS ?_
      refine wpAnyH_take (i := 1) (v := .pointer (some ⟨q, 0, none⟩)) rfl (by kernel_rfl) (by kernel_rfl) (by kernel_rfl) (fun _ _ _ h => h) (Or.inl ⟨by kernel_rfl, fun wx hx => by go_simp⟩) hS ?_
      refine wpAnyH_take (i := 2) (v := .pointer (some ⟨q, 0, none⟩)) rfl (by kernel_rfl) (by kernel_rfl) (by kernel_rfl) (fun _ _ _ h => h) (Or.inl ⟨by kernel_rfl, fun wx hx => by go_simp⟩) hS ?_
      refine wpAnyH_take (i := 3) (v := .pointer (some ⟨p, 0, none⟩)) rfl (by kernel_rfl) (by kernel_rfl) (by kernel_rfl) (fun _ _ _ h => h) (Or.inl ⟨by kernel_rfl, fun wx hx => by obtain ⟨k0, k1⟩ := hx; go_simp⟩) hS ?_
      refine wpAnyH_take (i := 4) (v := .pointer (some ⟨q, 0, none⟩)) rfl (by kernel_rfl) (by kernel_rfl) (by kernel_rfl) (fun _ _ _ h => h) (Or.inl ⟨by kernel_rfl, fun _ _ => by kernel_rfl⟩) hS ?_
      refine wpAnyH_take (i := 5) (v := .pointer (some ⟨q, 0, none⟩)) rfl (by kernel_rfl) (by kernel_rfl) (by kernel_rfl) (fun _ _ _ h => h) (Or.inl ⟨by kernel_rfl, fun wx hx => by go_simp⟩) hS ?_
      refine wpAnyH_take (i := 6) (v := .pointer (some ⟨q, 1, none⟩)) rfl (by kernel_rfl) (by kernel_rfl) (by kernel_rfl) (fun _ _ _ h => h) (Or.inl ⟨by kernel_rfl, fun wx hx => by go_simp⟩) hS ?_
      refine wpAnyH_take (i := 7) (v := .int .i64 (b : Int)) rfl (by kernel_rfl) (by kernel_rfl) (by kernel_rfl) (fun _ _ _ h => h) (Or.inl ⟨by kernel_rfl, fun wx hx => by obtain ⟨k0, k1⟩ := hx; go_simp⟩) hS ?_
      refine wpAnyH_take (i := 8) (v := .int .i64 ((1 : Nat) : Int)) rfl (by kernel_rfl) (by kernel_rfl) (by kernel_rfl) (fun _ _ _ h => h) (Or.inl ⟨by kernel_rfl, fun _ _ => by kernel_rfl⟩) hS ?_
      refine wpAnyH_take (i := 9) (v := .int .i64 ((b : Int) + 1)) rfl (by kernel_rfl) (by kernel_rfl) (by kernel_rfl) (fun _ _ _ h => h) (Or.inl ⟨by kernel_rfl, fun wx hx => by go_simp; exact wrap_b ((b : Int) + 1) (by omega) (by omega)⟩) hS ?_
      refine wpAnyH_ready (rs := [10]) (by kernel_rfl) (by simp) (AllReadyH.cons rfl (fun Kc hK => ?_) AllReadyH.nil)
      go_simp
      refine t5.mono ?_
      rintro e w6 ⟨v6, rfl, hO6, hB6⟩
      clear t5
      obtain ⟨a6, c6, rfl⟩ := Oc.OwnB.slice hO6
      have HO6 : Hid (OwnB w6 wr.drew.heap.size (.slice a6 l1.length c6) l1) := ⟨hO6⟩
      have HBr6 : Hid (Below wr.heap.size wr w6) := ⟨(Below.refl _ wr).drew.trans hB6⟩
      clear hO6 hB6
      have HC6 : Hid (CellAt w6 q p (b : Int) d.life) := ⟨CellAt.below HCr.out HBr6.out⟩
      refine hK.out _ _ ⟨HC6.out.cells.1, HC6.out.cells.2.1⟩ (fun hS => ?_)
      clear hK
      refine wpAnyH_take (i := 11) (v := .tuple #[.slice a6 l1.length c6, .int .i64 0]) rfl (by kernel_rfl) (by kernel_rfl) (by kernel_rfl) (fun _ _ _ h => h) (Or.inl ⟨by kernel_rfl, fun _ _ => by kernel_rfl⟩) hS ?_
      refine wpAnyH_take (i := 12) (v := .slice a6 l1.length c6) rfl (by kernel_rfl) (by kernel_rfl) (by kernel_rfl) (fun _ _ _ h => h) (Or.inl ⟨by kernel_rfl, fun wx hx => by go_simp⟩) hS ?_
      refine wpAnyH_take (i := 13) (v := .int .i64 0) rfl (by kernel_rfl) (by kernel_rfl) (by kernel_rfl) (fun _ _ _ h => h) (Or.inl ⟨by kernel_rfl, fun wx hx => by go_simp⟩) hS ?_
      refine wpAnyH_take (i := 14) (v := .slice a6 l1.length c6) rfl (by kernel_rfl) (by kernel_rfl) (by kernel_rfl) (fun _ _ _ h => h) (Or.inl ⟨by kernel_rfl, fun _ _ => by kernel_rfl⟩) hS ?_
      refine wpAnyH_take (i := 15) (v := .int .i64 0) rfl (by kernel_rfl) (by kernel_rfl) (by kernel_rfl) (fun _ _ _ h => h) (Or.inl ⟨by kernel_rfl, fun _ _ => by kernel_rfl⟩) hS ?_
      refine wpAnyH_done (by kernel_rfl) ?_ _
      clear hS hc0 hc1 hc2
      go_simp
      have t6 := parted_any (w := w6) _ l1 H1.out.1 (Oc.OwnB.bs HO6.out)
      have HS6 : Hid (w6.heap[s]? = some (.cells (Dk.pa (lkL l0 l1 1)) 60 (0, 0))) := ⟨(HBr6.out.block s (Array.getElem?_eq_some_iff.1 HSr.out).1).trans HSr.out⟩
      have HR6 : Hid (w6.heap[r]? = some (.cells (Dk.pa zz) 60 (0, 0))) := ⟨(HBr6.out.block r (Array.getElem?_eq_some_iff.1 HRr.out).1).trans HRr.out⟩
      have HB6 : Hid (Below w.heap.size w w6) := ⟨HBr.out.trans (HBr6.out.mono HBr.out.size)⟩
      go_upto_region 12 with (first
        | (go_at_call 35; refine t6.mono ?_; rintro e w7 ⟨rfl, hB7⟩; have HB67 : Hid (Below w6.heap.size w6 w7) := ⟨hB7⟩; clear hB7 t6; have HS7 : Hid (w7.heap[s]? = some (.cells (Dk.pa (lkL l0 l1 1)) 60 (0, 0))) := ⟨(HB67.out.block s (Array.getElem?_eq_some_iff.1 HS6.out).1).trans HS6.out⟩)
        | (refine Dk.wpList_store_page rfl 59 _ _ rfl s 128 l1 (by kernel_rfl) (by kernel_rfl) 60 (Dk.pa (lkL l0 l1 1)) HS7.out (by rw [H1.out.1]; exact info59) (by rw [Dk.pc_length, H1.out.1, Dk.pa_size, lk_len H0.out.1 H1.out.1]; decide) ?_; rw [lk_put1 H0.out.1 H1.out.1]))
      have HR7 : Hid (w7.heap[r]? = some (.cells (Dk.pa zz) 60 (0, 0))) := ⟨(HB67.out.block r (Array.getElem?_eq_some_iff.1 HR6.out).1).trans HR6.out⟩
      obtain ⟨w8, Hw8⟩ : ∃ x, Hid (w7.setRow s (Dk.pa (lkL l0 l1 2)) = x) := ⟨_, ⟨rfl⟩⟩
      rw [Hw8.out]
      have HS8 : Hid (w8.heap[s]? = some (.cells (Dk.pa (lkL l0 l1 2)) 60 (0, 0))) := ⟨by rw [← Hw8.out]; exact setRow_heap _ _ _ _ 60 (0, 0) HS7.out⟩
      have HR8 : Hid (w8.heap[r]? = some (.cells (Dk.pa zz) 60 (0, 0))) := ⟨by rw [← Hw8.out, setRow_other _ _ _ _ (by have := Hrs.out; omega)]; exact HR7.out⟩
      have HB8 : Hid (Below w.heap.size w w8) := ⟨by rw [← Hw8.out]; exact Dk.below_setRow' (HB6.out.trans (HB67.out.mono HB6.out.size)) (by have := Hrs.out; have := Hb.out; omega) _⟩
      go_wp2_with fail
      go_roundg 0
      case measure => omega
      case rel => exact ⟨2, by decide, by decide, by go_num, HS8, HR8, HB8⟩
    · have HX2 : Hid (lkL l0 l1 2 = l0 ++ l1) := ⟨rfl⟩
      rw [HX2.out] at HSr
      have hiL : (Tryd.prog.info? 60).map (·.size) = some (Dk.pa (l0 ++ l1)).size := by rw [Dk.pa_size, List.length_append, H0.out.1, H1.out.1]; exact info60
      go_wp2_with (first
        | (refine wpList_load_row rfl 60 (.tmp 4) rfl s rfl 60 (Dk.pa (l0 ++ l1)) (0, 0) _ HSr.out Tryd.underlying60 rfl hiL ?_)
        | (refine wpList_store_row rfl 60 (.tmp 2) (.tmp 41) rfl r (Dk.pa (l0 ++ l1)) rfl rfl 60 (Dk.pa zz) HRr.out hiL (by rw [Dk.pa_size, Dk.pa_size, zz_len, List.length_append, H0.out.1, H1.out.1]) (Dk.pa_one _) ?_))
      refine bodyPost_ret (v := .tuple #[.agg (Dk.pa (l0 ++ l1)), .int .i64 0]) (results_row_tmp Tryd.results21 _ _ r 60 _ (0, 0) _ (by kernel_rfl) (setRow_heap _ _ _ _ 60 (0, 0) HRr.out) Tryd.underlying60 rfl hiL) rfl ⟨rfl, ?_⟩
      exact Dk.below_setRow' HBr.out (by rw [Hb.out]; exact Nat.le_refl _) _
end
end Go.Proofs.YtgjjjkokmgdmjaaDoor
