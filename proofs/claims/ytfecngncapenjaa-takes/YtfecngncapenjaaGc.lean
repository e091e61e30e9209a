/- Texts joined into one: C7, C8, C9, C10. -/
import Derived.Test.YtfecngncapenjaaC6
/- Bits of bytes: next, isDone. -/
namespace Go.Proofs.Ytfecngncapenjaa
open Go.RowKit Oct

/-- The bit at a place. -/
def bitAt (b : List Int) (i : Nat) : Nat := (b.getD (i / 8) 0).toNat / 2 ^ (7 - i % 8) % 2
/-- A reader of bits in memory. -/
def RdB (w : World) (r : Nat) (v : Value) (b : List Int) (a : Nat) : Prop := w.heap[r]? = some (.cells #[v, .int .i64 (a : Int)] 84 (0, 0)) ∧ RdY w v b ∧ r ∉ ob v ∧ a ≤ 8 * b.length
theorem chg_drewN {X : List Nat} {w w' : World} (h : Chg X w w') (k : Nat) : Chg X w (w'.drewN k) := ⟨h.os, h.tape, h.output, h.size, h.block⟩
theorem u8_and_one (m : Nat) (hm : m < 256) : bits .and .u8 (m : Int) 1 = ((m % 2 : Nat) : Int) := by
  have : ∀ k : Fin 256, bits .and .u8 ((k : Nat) : Int) 1 = (((k : Nat) % 2 : Nat) : Int) := by decide +kernel
  exact this ⟨m, hm⟩
theorem bit_val {b : List Int} {a c : Nat} (hc : b.getD (a / 8) 0 = (c : Int)) (h : c < 256) : bits .and .u8 ((c : Int) / 2 ^ (7 - a % 8)) 1 = ((bitAt b a : Nat) : Int) := by
  have e : (c : Int) / 2 ^ (7 - a % 8) = ((c / 2 ^ (7 - a % 8) : Nat) : Int) := by simp
  rw [e, u8_and_one _ (Nat.lt_of_le_of_lt (Nat.div_le_self _ _) h), bitAt, hc, Int.toNat_natCast]
section
variable {w : World}
set_option maxHeartbeats 4000000 in
set_option maxRecDepth 100000 in
theorem next55 (r : Nat) (v : Value) (b : List Int) (a : Nat) (h : RdB w r v b a) (hb : By b) (hlm : b.length ≤ 1000000) : Calls Try.prog 55 #[.pointer (some ⟨r, 0, none⟩)] w fun e w' =>
    e = .returned (.tuple (if a < 8 * b.length then #[.int .u8 (bitAt b a : Nat), .bool true] else #[.int .u8 0, .bool false])) ∧ Chg [r] w w' ∧ RdB w' r v b (if a < 8 * b.length then a + 1 else a) := by
  obtain ⟨hr, hv, hne, ha⟩ := h
  obtain ⟨s, cap, rfl, hcap⟩ := hv.shape
  have c0 : w.cell? ⟨r, 0, none⟩ = some (.slice s b.length cap) := by rw [cell_of_row _ _ _ _ _ _ hr]; rfl
  have c1 : w.cell? ⟨r, 1, none⟩ = some (.int .i64 (a : Int)) := by rw [cell_of_row _ _ _ _ _ _ hr]; rfl
  have f1 : w.frozen? ⟨r, 1, none⟩ = false := frozen_of_row _ _ _ _ _ hr
  obtain ⟨x, Hx⟩ : ∃ x, Hid (a / 8 = x) := ⟨_, ⟨rfl⟩⟩
  obtain ⟨y, Hy⟩ : ∃ y, Hid (a % 8 = y) := ⟨_, ⟨rfl⟩⟩
  have hx := Hx.out
  have hy := Hy.out
  have qx : (a : Int) / 8 = (x : Int) := by omega
  have qy : (a : Int) % 8 = (y : Int) := by omega
  obtain ⟨n, Hn⟩ : ∃ n, Hid (b.length = n) := ⟨_, ⟨rfl⟩⟩
  have HR := Hid.mk hr
  have HV := Hid.mk hv
  have HNE := Hid.mk hne
  have hy7 : y < 8 := by omega
  rw [Hn.out] at hlm c0 ha HR HV HNE ⊢
  by_cases hlt : a < 8 * n
  · rw [if_pos hlt, if_pos hlt]
    have hxn : x < n := by omega
    have hxz : (x : Int) < (n : Int) := by omega
    have hxe : ((x : Int) == (n : Int)) = false := beq_eq_false_iff_ne.2 (by omega)
    obtain ⟨g, off, cap', e, _, hat⟩ := hv.at (i := x) (by rw [Hn.out]; exact hxn)
    simp only [Value.slice.injEq] at e
    obtain ⟨rfl, -, rfl⟩ := e
    have d1 := hat x (by rw [Hn.out]; exact hxn)
    have hg := hb.get x
    obtain ⟨c, Hc⟩ : ∃ c : Nat, Hid (b.getD x 0 = (c : Int)) := ⟨(b.getD x 0).toNat, ⟨by omega⟩⟩
    rw [Hc.out] at d1 hg
    have HB : Hid (bits .and .u8 ((c : Int) / 2 ^ (7 - a % 8)) 1 = ((bitAt b a : Nat) : Int)) := ⟨bit_val (by rw [Hx.out]; exact Hc.out) (by omega)⟩
    have hsub : IntKind.i64.wrap (7 - (y : Int)) = 7 - (y : Int) := IntWalk.i64_in _ ⟨by omega, by omega⟩
    have ha1 : IntKind.i64.wrap ((a : Int) + 1) = (a : Int) + 1 := IntWalk.i64_in _ ⟨by omega, by omega⟩
    have hwx : IntKind.i64.wrap ((a : Int) / 8) = (x : Int) := by rw [qx]; exact IntWalk.i64_in _ ⟨by omega, by omega⟩
    have hwy : IntKind.i64.wrap ((a : Int) % 8) = (y : Int) := by rw [qy]; exact IntWalk.i64_in _ ⟨by omega, by omega⟩
    clear qx qy
    have hs0 : ¬ (7 - (y : Int) < 0) := by omega
    clear hat hr hv hne hcap hx hy
    go_enter Try.func55, Try.ntmps55
    go_upto_region 1 with fail
    go_quiet (fail)
    go_upto_region 3 with fail
    go_quiet (fail)
    go_wp2_with fail
    go_ret2
    rw [HB.out]
    have HC : ∀ k, Chg [r] w ((w.drewN k).setCell ⟨r, 1, none⟩ (.int .i64 ((a : Int) + 1))) := fun k => (chg_drewN (Chg.refl [r] w) k).setCell (a := ⟨r, 1, none⟩) (.inl (by simp)) _
    refine ⟨rfl, HC _, ?_, ?_, HNE.out, by rw [Hn.out]; omega⟩
    · rw [heap_setCell_same _ r 1 _ 84 _ (show (w.drewN _).heap[r]? = _ from HR.out)]
      rfl
    · exact Rd.far HV.out (HC _) (fun _ k hk hm => HNE.out (by rw [List.mem_singleton] at hm; exact hm ▸ mem_ob.2 hk))
  · rw [if_neg hlt, if_neg hlt]
    have hxn : x = n := by omega
    have hwx : IntKind.i64.wrap ((a : Int) / 8) = (n : Int) := by rw [qx, hxn]; exact IntWalk.i64_in _ ⟨by omega, by omega⟩
    clear qx qy hr hv hne hcap hx hy
    go_enter Try.func55, Try.ntmps55
    go_upto_region 1 with fail
    go_quiet (fail)
    go_wp2_with fail
    go_ret2
    exact ⟨rfl, chg_drewN (Chg.refl [r] w) _, HR.out, Rd.far HV.out (chg_drewN (Chg.refl [] w) _) (by simp), HNE.out, by rw [Hn.out]; omega⟩
end
end Go.Proofs.Ytfecngncapenjaa

/- Are only zeros left: isDone. -/
namespace Go.Proofs.Ytfecngncapenjaa
open Go.RowKit Oct

/-- Only zeros up to the end of the byte, which is the last one. -/
def isD (b : List Int) (a : Nat) : Bool := decide (∀ i, i < (a + 7) / 8 * 8 → a ≤ i → bitAt b i = 0) && decide ((a + 7) / 8 = b.length)
section
variable {w : World}
theorem chg_trans1 {r : Nat} {w1 w2 w3 : World} (h : Chg [r] w1 w2) (k : Chg [r] w2 w3) : Chg [r] w1 w3 := h.trans k
set_option maxHeartbeats 4000000 in
set_option maxRecDepth 100000 in
theorem done49 (r : Nat) (v : Value) (b : List Int) (a : Nat) (h : RdB w r v b a) (hb : By b) (hlm : b.length ≤ 1000000) : Calls Try.prog 49 #[.pointer (some ⟨r, 0, none⟩)] w fun e w' => e = .returned (.bool (isD b a)) ∧ Chg [r] w w' := by
  obtain ⟨R, HR⟩ : ∃ R, Hid (isD b a = R) := ⟨_, ⟨rfl⟩⟩
  rw [HR.out]
  have HA := Hid.mk h
  have HBy := Hid.mk hb
  have HL := Hid.mk hlm
  obtain ⟨u, Hu⟩ : ∃ u, Hid ((a + 7) / 8 = u) := ⟨_, ⟨rfl⟩⟩
  have hua := Hu.out
  clear h hb
  go_enter Try.func49, Try.ntmps49
  go_upto_region 1 with fail
  go_loopg [3, 4, 11] (u * 8 - a + 1) (fun gg _s3 _s4 _s11 wr => ∃ k : Nat, a ≤ k ∧ k ≤ u * 8 ∧ u * 8 - k + 1 ≤ gg ∧ Hid (RdB wr r v b k) ∧ Hid (Chg [r] w wr) ∧ Hid (∀ i, i < k → a ≤ i → bitAt b i = 0))
  case atStart => exact ⟨a, Nat.le_refl _, by omega, by omega, HA, ⟨Chg.refl _ _⟩, ⟨fun i h1 h2 => by omega⟩⟩
  case round =>
    obtain ⟨k, hk1, hk2, hgg, HK, HC, HZ⟩ := hrel
    rename World => wo
    have d1 : wo.cell? ⟨r, 1, none⟩ = some (.int .i64 (k : Int)) := by rw [cell_of_row _ _ _ _ _ _ HK.out.1]; rfl
    have hk8 := HK.out.2.2.2
    by_cases hm : k % 8 = 0
    · have hwy : IntKind.i64.wrap ((k : Int) % 8) = 0 := by rw [show (k : Int) % 8 = 0 by omega]; rfl
      obtain ⟨s, cap, rfl, _⟩ := HK.out.2.1.shape
      have d0 : wo.cell? ⟨r, 0, none⟩ = some (.slice s b.length cap) := by rw [cell_of_row _ _ _ _ _ _ HK.out.1]; rfl
      have hku : k = u * 8 := by omega
      have hwx : IntKind.i64.wrap ((k : Int) / 8) = (u : Int) := by rw [show (k : Int) / 8 = (u : Int) by omega]; exact IntWalk.i64_in _ ⟨by omega, by omega⟩
      have hR : R = ((u : Int) == (b.length : Int)) := by
        rw [← HR.out, isD, Hu.out, decide_eq_true (fun i h1 h2 => HZ.out i (by omega) h2), Bool.true_and]
        by_cases e : u = b.length
        · rw [decide_eq_true e, e]; simp
        · rw [decide_eq_false e]; exact (beq_eq_false_iff_ne.2 (by omega)).symm
      clear hk8 hku
      go_upto_region 5 with fail
      go_quiet (fail)
      go_wp2_with fail
      go_ret
      first | rw [hR] | skip
      exact ⟨rfl, chg_drewN HC.out _⟩
    · have hwy : IntKind.i64.wrap ((k : Int) % 8) = ((k % 8 : Nat) : Int) := by rw [show (k : Int) % 8 = ((k % 8 : Nat) : Int) by omega]; exact IntWalk.i64_in _ ⟨by omega, by omega⟩
      have hne : ((k : Int) % 8 != 0) = true := bne_iff_ne.2 (by omega)
      have hlt : k < 8 * b.length := by omega
      have t1 := next55 (w := wo) r v b k HK.out HBy.out HL.out
      rw [if_pos hlt, if_pos hlt] at t1
      obtain ⟨z, Hz⟩ : ∃ z, Hid (bitAt b k = z) := ⟨_, ⟨rfl⟩⟩
      rw [Hz.out] at t1
      by_cases hz : z = 0
      · subst hz
        go_wp2_with fail
        refine t1.mono ?_
        rintro e w3 ⟨rfl, hc3, hk3⟩
        have HC3 : Hid (Chg [r] w w3) := ⟨HC.out.trans hc3⟩
        have HK3 := Hid.mk hk3
        clear t1 hc3 hk3
        go_wp2_with fail
        go_roundg (u * 8 - (k + 1) + 1)
        case measure => omega
        case rel => exact ⟨k + 1, by omega, by omega, by omega, HK3, HC3, ⟨fun i h1 h2 => by
          by_cases e : i = k
          · rw [e, Hz.out]
          · exact HZ.out i (by omega) h2⟩⟩
      · have hzne : ((z : Int) != 0) = true := bne_iff_ne.2 (by omega)
        have hR : R = false := by
          rw [← HR.out, isD, decide_eq_false, Bool.false_and]
          intro h
          exact hz (by rw [← Hz.out]; exact h k (by omega) hk1)
        go_wp2_with fail
        refine t1.mono ?_
        rintro e w3 ⟨rfl, hc3, hk3⟩
        have HC3 : Hid (Chg [r] w w3) := ⟨HC.out.trans hc3⟩
        clear t1 hc3 hk3
        go_wp2_with fail
        go_ret
        first | rw [hR] | skip
        exact ⟨rfl, HC3.out⟩
end
end Go.Proofs.Ytfecngncapenjaa

/- A number in so many bits: word. -/
namespace Go.Proofs.Ytfecngncapenjaa
open Go.RowKit Oct

/-- The first k of L bits of n, as signs. -/
def wds (n L : Nat) : Nat → List Int
  | 0 => []
  | k + 1 => wds n L k ++ [((48 + n / 2 ^ (L - 1 - k) % 2 : Nat) : Int)]
theorem wds_len (n L : Nat) : ∀ k, (wds n L k).length = k
  | 0 => rfl
  | k + 1 => by rw [wds, List.length_append, wds_len n L k]; rfl
theorem wds_set (n L k : Nat) (h : k < L) : (wds n L k ++ List.replicate (L - k) 0).set k ((48 + n / 2 ^ (L - 1 - k) % 2 : Nat) : Int) = wds n L (k + 1) ++ List.replicate (L - (k + 1)) 0 := by
  have e : L - k = (L - (k + 1)) + 1 := by omega
  rw [e, List.replicate_succ, List.set_append_right _ _ (by rw [wds_len]; exact Nat.le_refl k), wds_len, Nat.sub_self, wds, List.append_assoc]
  rfl
theorem i64_and_one (m : Nat) (hm : m < 1152921504606846976) : bits .and .i64 (m : Int) 1 = ((m % 2 : Nat) : Int) := by
  show IntKind.i64.wrap ((BitVec.ofInt 64 (m : Int) &&& BitVec.ofInt 64 ((1 : Nat) : Int)).toNat : Int) = _
  rw [BitVec.toNat_and, ofInt_u64 m (by omega), ofInt_u64 1 (by omega), Nat.and_one_is_mod]
  exact IntWalk.i64_in _ ⟨by omega, by omega⟩
section
variable {w : World}
set_option maxHeartbeats 4000000 in
set_option maxRecDepth 100000 in
theorem word29 (n L : Nat) (hn : n < 1152921504606846976) (hL : L ≤ 60) : Calls Try.prog 29 #[.int .i64 (n : Int), .int .i64 (L : Int)] w fun e w' => e = .returned (.string (strOfNums (wds n L L))) ∧ Below w.heap.size w w' := by
  obtain ⟨q, Hq⟩ : ∃ q, Hid (w.heap.size = q) := ⟨_, ⟨rfl⟩⟩
  go_enter Try.func29, Try.ntmps29
  go_upto_region 3 with (refine wp_makeB Try.bt rfl _ _ rfl L rfl rfl rfl rfl (by omega) (Nat.le_refl _) ?_; intro w1 hO1 hB1; have HO1 := Hid.mk hO1; have HB1 := Hid.mk hB1; clear hO1 hB1; rw [Hq.out])
  rw [Hq.out] at HO1 HB1
  go_loopg [11, 6] L (fun gg s11 _s6 wr => ∃ k : Nat, k ≤ L ∧ L - k ≤ gg ∧ s11 = .int .i64 (k : Int) ∧ Hid (Below q w wr) ∧ Hid (OwnB wr q 5 (.slice (some ⟨q, 0, none⟩) L L) (wds n L k ++ List.replicate (L - k) 0)))
  case atStart => exact ⟨0, Nat.zero_le _, by omega, rfl, HB1, HO1⟩
  case round =>
    obtain ⟨k, hk, hgg, rfl, HB, HO⟩ := hrel
    rename World => wo
    by_cases hlt : k < L
    · have hltz : (k : Int) < (L : Int) := by omega
      obtain ⟨m, Hm⟩ : ∃ m : Nat, Hid (L - 1 - k = m) := ⟨_, ⟨rfl⟩⟩
      have hm := Hm.out
      obtain ⟨y, Hy⟩ : ∃ y : Nat, Hid (n / 2 ^ m % 2 = y) := ⟨_, ⟨rfl⟩⟩
      have hy : y < 2 := by have := Hy.out; omega
      have f1 : wo.frozen? ⟨q, k, none⟩ = false := HO.out.frozenAt k
      have hs1 : IntKind.i64.wrap ((L : Int) - 1 - (k : Int)) = (m : Int) := by rw [show (L : Int) - 1 - (k : Int) = (m : Int) by omega]; exact IntWalk.i64_in _ ⟨by omega, by omega⟩
      have hm64 : min m 64 = m := by omega
      have ha : bits .and .i64 ((n : Int) / 2 ^ m) 1 = (y : Int) := by
        have e : (n : Int) / 2 ^ m = ((n / 2 ^ m : Nat) : Int) := by simp
        rw [e, i64_and_one _ (Nat.lt_of_le_of_lt (Nat.div_le_self _ _) hn), Hy.out]
      have hy1 : (y : Int) % 256 = (y : Int) := by omega
      have hy2 : (48 + (y : Int)) % 256 = 48 + (y : Int) := by omega
      have c1 : wo.cell? ⟨q, k, none⟩ = some (.int .u8 ((wds n L k ++ List.replicate (L - k) 0).getD k 0)) := HO.out.cellAt k (by rw [List.length_append, wds_len, List.length_replicate]; omega)
      have HY : Hid (((48 + n / 2 ^ (L - 1 - k) % 2 : Nat) : Int) = 48 + (y : Int)) := ⟨by rw [Hm.out, Hy.out]; omega⟩
      generalize (wds n L k ++ List.replicate (L - k) 0).getD k 0 = z at c1
      clear hm hy
      go_wp2_with fail
      have hst := HO.out.stored (Nat.le_refl q) k (48 + (y : Int))
      rw [← HY.out, wds_set n L k hlt, HY.out] at hst
      go_roundg (L - (k + 1))
      case measure => omega
      case rel => exact ⟨k + 1, by omega, by omega, by go_num, ⟨HB.out.trans hst.2⟩, ⟨hst.1⟩⟩
    · obtain rfl : k = L := by omega
      have hstr := run_str (w := wo) Try.bt HO.out.bs 9 Try.underlying9
      rw [Nat.sub_self, List.replicate_zero, List.append_nil] at hstr
      go_wp2_with fail
      go_ret
      exact ⟨rfl, by rw [Hq.out]; exact HB.out⟩
end
end Go.Proofs.Ytfecngncapenjaa

/- What lengths cost: Cost. -/
namespace Go.Proofs.Ytfecngncapenjaa
open Go.RowKit Oct

/-- What one byte adds. -/
def ct (n l : Int) : Int := if ¬ (n < 0 ∨ 8192 < n) ∧ 0 ≤ l ∧ l ≤ 255 then n * l else 0
/-- What the first bytes cost. -/
def cst (f g : List Int) : Nat → Int
  | 0 => 0
  | k + 1 => cst f g k + ct (f.getD k 0) (g.getD k 0)
theorem ct_le (n l : Int) : 0 ≤ ct n l ∧ ct n l ≤ 2088960 := by
  unfold ct
  by_cases h : ¬ (n < 0 ∨ 8192 < n) ∧ 0 ≤ l ∧ l ≤ 255
  · rw [if_pos h]
    have h1 : 0 ≤ n * l := Int.mul_nonneg (by omega) (by omega)
    have h2 : n * l ≤ 8192 * 255 := Int.mul_le_mul (by omega) (by omega) (by omega) (by omega)
    omega
  · rw [if_neg h]
    omega
theorem cst_le (f g : List Int) : ∀ k, 0 ≤ cst f g k ∧ cst f g k ≤ 2088960 * (k : Int)
  | 0 => ⟨Int.le_refl _, Int.le_refl _⟩
  | k + 1 => by
    have h1 := cst_le f g k
    have h2 := ct_le (f.getD k 0) (g.getD k 0)
    rw [cst]
    omega
section
variable {w : World}
set_option maxHeartbeats 4000000 in
set_option maxRecDepth 100000 in
theorem cost14 (f g : List Int) (hf : f.length = 256) (hg : g.length = 256) : Calls Try.prog 14 #[.agg (ia f), .agg (ia g)] w fun e w' => e = .returned (.int .i64 (cst f g 256)) ∧ Below w.heap.size w w' := by
  obtain ⟨q, Hq⟩ : ∃ q, Hid (w.heap.size = q) := ⟨_, ⟨rfl⟩⟩
  obtain ⟨w1, Hw1⟩ : ∃ x, Hid (w.alloc (.cells (ia f) 22) = x) := ⟨_, ⟨rfl⟩⟩
  have HB1 : Hid (Below w.heap.size w w1) := ⟨by rw [← Hw1.out]; exact (Below.refl _ w).alloc (Nat.le_refl _) _⟩
  have HX1 : Hid (w1.heap[q]? = some (.cells (ia f) 22 (0, 0))) := ⟨by rw [← Hw1.out, ← Hq.out]; exact heap_alloc_new w _⟩
  have HS1 : Hid (w1.heap.size = q + 1) := ⟨by rw [← Hw1.out, ← Hq.out]; exact Array.size_push _⟩
  obtain ⟨w2, Hw2⟩ : ∃ x, Hid (w1.alloc (.cells (ia g) 22) = x) := ⟨_, ⟨rfl⟩⟩
  have HB2 : Hid (Below w.heap.size w w2) := ⟨by rw [← Hw2.out]; exact HB1.out.alloc HB1.out.size _⟩
  have HX2 : Hid (w2.heap[q]? = some (.cells (ia f) 22 (0, 0))) := ⟨by rw [← Hw2.out]; rw [heap_alloc_old (h := by rw [HS1.out]; omega)]; exact HX1.out⟩
  have HY2 : Hid (w2.heap[q + 1]? = some (.cells (ia g) 22 (0, 0))) := ⟨by rw [← Hw2.out, ← HS1.out]; exact heap_alloc_new w1 _⟩
  have HF := Hid.mk hf
  have HG := Hid.mk hg
  obtain ⟨A, HA⟩ : ∃ A, Hid (ia f = A) := ⟨_, ⟨rfl⟩⟩
  obtain ⟨B, HBb⟩ : ∃ B, Hid (ia g = B) := ⟨_, ⟨rfl⟩⟩
  have HI : Hid ((Try.prog.info? 22).map (·.size) = some A.size) := ⟨by rw [← HA.out]; exact info22f hf⟩
  rw [HA.out] at Hw1 HX2
  rw [HBb.out] at Hw2
  rw [HA.out, HBb.out]
  clear hf hg
  go_enter Try.func14, Try.ntmps14
  go_upto_region 3 with (first | (refine wp_box rfl 22 (.tmp 0) rfl A rfl ?_; rw [Hw1.out]) | (refine wp_box rfl 22 (.tmp 1) rfl B rfl ?_; rw [Hw2.out]) | (refine wp_load rfl 22 (.tmp 2) rfl q (by rw [← Hq.out]; rfl) A 22 (0, 0) _ HX2.out Try.underlying22 rfl HI.out ?_))
  rw [HS1.out]
  go_loopg [10, 5, 6, 7, 8] 256 (fun gg s10 s5 _s6 _s7 _s8 wr => ∃ k : Nat, k ≤ 256 ∧ 256 - k ≤ gg ∧ s10 = .int .i64 (k : Int) ∧ s5 = .int .i64 (cst f g k) ∧ Hid (Below w.heap.size w wr) ∧ Hid (wr.heap[q + 1]? = some (.cells (ia g) 22 (0, 0))))
  case atStart => exact ⟨0, Nat.zero_le _, by omega, rfl, rfl, HB2, HY2⟩
  case round =>
    obtain ⟨k, hk, hgg, rfl, rfl, HB, HY⟩ := hrel
    rename World => wo
    by_cases hlt : k < 256
    · have hltz : (k : Int) < 256 := by omega
      have hb0 := cst_le f g k
      have hb1 := cst_le f g (k + 1)
      have HN : Hid (cst f g (k + 1) = cst f g k + ct (f.getD k 0) (g.getD k 0)) := ⟨rfl⟩
      rw [HN.out] at hb1
      obtain ⟨c, Hc⟩ : ∃ c, Hid (cst f g k = c) := ⟨_, ⟨rfl⟩⟩
      rw [Hc.out] at HN hb0 hb1 ⊢
      obtain ⟨x, Hx⟩ : ∃ x, Hid (f.getD k 0 = x) := ⟨_, ⟨rfl⟩⟩
      have d2 : wo.cell? ⟨q + 1, k, none⟩ = some (.int .i64 (g.getD k 0)) := by rw [cell_of_row _ _ _ _ _ _ HY.out]; exact ia_get (by rw [HG.out]; exact hlt)
      rw [Hx.out] at HN hb1
      generalize g.getD k 0 = y at d2 HN hb1
      have t1 := noCount21 (w := wo) x
      by_cases hn : x < 0 ∨ 8192 < x
      · have hct : ct x y = 0 := by unfold ct; rw [if_neg (fun h => h.1 hn)]
        rw [decide_eq_true hn] at t1
        clear hn
        go_wp2_with (rw [← HA.out]; refine wp_idx rfl (.tmp 9) (.tmp 10) rfl rfl k rfl HF.out hlt ?_; rw [Hx.out, HA.out])
        refine t1.mono ?_
        rintro e w3 ⟨rfl, rfl⟩
        go_wp2_with fail
        go_roundg (256 - (k + 1))
        case measure => omega
        case rel => exact ⟨k + 1, by omega, by omega, by go_num, by rw [HN.out, hct, Int.add_zero], HB, HY⟩
      · rw [decide_eq_false hn] at t1
        by_cases h1 : 0 ≤ y
        · by_cases h2 : y ≤ 255
          · have hct : ct x y = x * y := by unfold ct; rw [if_pos ⟨hn, h1, h2⟩]
            rw [hct] at HN hb1
            have hm1 : IntKind.i64.wrap (x * y) = x * y := IntWalk.i64_in _ ⟨by omega, by omega⟩
            have hm2 : IntKind.i64.wrap (c + x * y) = c + x * y := IntWalk.i64_in _ ⟨by omega, by omega⟩
            clear hn hct
            go_wp2_with (rw [← HA.out]; refine wp_idx rfl (.tmp 9) (.tmp 10) rfl rfl k rfl HF.out hlt ?_; rw [Hx.out, HA.out])
            refine t1.mono ?_
            rintro e w3 ⟨rfl, rfl⟩
            go_wp2_with fail
            go_roundg (256 - (k + 1))
            case measure => omega
            case rel => exact ⟨k + 1, by omega, by omega, by go_num, by rw [HN.out], HB, HY⟩
          · have hct : ct x y = 0 := by unfold ct; rw [if_neg (fun h => h2 h.2.2)]
            clear hn
            go_wp2_with (rw [← HA.out]; refine wp_idx rfl (.tmp 9) (.tmp 10) rfl rfl k rfl HF.out hlt ?_; rw [Hx.out, HA.out])
            refine t1.mono ?_
            rintro e w3 ⟨rfl, rfl⟩
            go_wp2_with fail
            go_roundg (256 - (k + 1))
            case measure => omega
            case rel => exact ⟨k + 1, by omega, by omega, by go_num, by rw [HN.out, hct, Int.add_zero], HB, HY⟩
        · have hct : ct x y = 0 := by unfold ct; rw [if_neg (fun h => h1 h.2.1)]
          clear hn
          go_wp2_with (rw [← HA.out]; refine wp_idx rfl (.tmp 9) (.tmp 10) rfl rfl k rfl HF.out hlt ?_; rw [Hx.out, HA.out])
          refine t1.mono ?_
          rintro e w3 ⟨rfl, rfl⟩
          go_wp2_with fail
          go_roundg (256 - (k + 1))
          case measure => omega
          case rel => exact ⟨k + 1, by omega, by omega, by go_num, by rw [HN.out, hct, Int.add_zero], HB, HY⟩
    · obtain rfl : k = 256 := by omega
      go_wp2_with fail
      go_ret
      exact ⟨rfl, HB.out⟩
end
end Go.Proofs.Ytfecngncapenjaa
