/- The document's Put. -/
import Derived.Test.YtfecngncapenjaaP4
import Derived.Test.YtfecngncapenjaaL5
import Derived.Test.YtfecngncapenjaaR2
namespace Go.Proofs.Ytfecngncapenjaa
open Go.RowKit Oct Go.Lib

section
variable {w : World}
set_option maxHeartbeats 32000000 in
set_option maxRecDepth 100000 in
theorem rput17_ok (v : Value) (p : List Int) (hv : RdY w v p) (hb : By p) (hl : p.length ≤ 8192) : Calls Try.prog 17 #[v] w fun e w' => ∃ v' out, e = .returned (.tuple #[v', .int .i64 0]) ∧ OwnY w' w.heap.size v' out ∧ PutS p out ∧ Below w.heap.size w w' := by
  have HV := Hid.mk hv
  have HBy := Hid.mk hb
  have Hbad := Hid.mk (cnt_bad hb hl)
  obtain ⟨a, cap, rfl, _, hcapm, _⟩ := hv.shape
  obtain ⟨n, Hn⟩ : ∃ n, Hid (p.length = n) := ⟨_, ⟨rfl⟩⟩
  rw [Hn.out] at hl HV ⊢
  have hnz : ¬ (8192 : Int) < (n : Int) := by omega
  obtain ⟨q, Hq⟩ : ∃ q, Hid (w.heap.size = q) := ⟨_, ⟨rfl⟩⟩
  obtain ⟨w1, Hw1, HX1, HB1⟩ := al22 w z0
  rw [Hq.out] at Hw1 HX1 HB1
  have HVx : Hid (∀ wx, Below q w wx → RdY wx (.slice a n cap) p) := ⟨fun wx h => Rd.far HV.out (Chg.ofBelow (X := []) (by rw [Hq.out]; exact h)) (by simp)⟩
  clear hv hb
  go_enter Try.func17, Try.ntmps17
  go_upto_region 6 with (first | (refine wp_zero22 rfl rfl ?_) | (refine wp_new22 rfl rfl ?_; rw [Hq.out]) | (refine wp_put22 (f := z0) (g := z0) rfl (.tmp 4) (.tmp 24) rfl rfl rfl z0_len z0_len (by rw [← Hq.out]; exact heap_alloc_new w _) ?_; rw [Hw1.out]))
  go_loopg [5, 6] n (fun gg s5 s6 wr => ∃ k : Nat, k ≤ n ∧ n - k ≤ gg ∧ s6 = .int .i64 (k : Int) ∧ s5 = .int .i64 (kd (cnt (p.take k)) 256 : Nat) ∧ Hid (Below q w wr) ∧ Hid (wr.heap[q]? = some (.cells (ia (cnt (p.take k))) 22 (0, 0))))
  case atStart => exact ⟨0, Nat.zero_le _, by omega, rfl, by rw [List.take_zero, show cnt [] = z0 from rfl, kd_zero]; rfl, HB1, HX1⟩
  case round =>
    clear HX1 HB1
    obtain ⟨k, hk, hgg, rfl, rfl, HB, HX⟩ := hrel
    rename World => wo
    by_cases hlt : k < n
    · have hltz : (k : Int) < (n : Int) := by omega
      obtain ⟨pg, off, cap', e, hcp, hat⟩ := (HVx.out wo HB.out).at (i := k) (by rw [Hn.out]; exact hlt)
      rw [Hn.out] at e
      simp only [Value.slice.injEq] at e
      obtain ⟨rfl, -, rfl⟩ := e
      have d1 := hat k (by rw [Hn.out]; exact hlt)
      have hgb := HBy.out.get k
      obtain ⟨m, Hm⟩ : ∃ m : Nat, Hid (p.getD k 0 = (m : Int)) := ⟨(p.getD k 0).toNat, ⟨by omega⟩⟩
      rw [Hm.out] at d1 hgb
      have hm : m < 256 := by omega
      have hmz : (m : Int) < 256 := by omega
      obtain ⟨f, Hf⟩ : ∃ f, Hid (cnt (p.take k) = f) := ⟨_, ⟨rfl⟩⟩
      rw [Hf.out] at HX ⊢
      have Hfl : Hid (f.length = 256) := ⟨by rw [← Hf.out]; exact cnt_len _⟩
      have hle := cnt_le (p.take k) (fun x hx => HBy.out x (List.mem_of_mem_take hx)) m
      rw [Hf.out] at hle
      have hle2 : f.getD m 0 ≤ 8192 := by have := List.length_take (i := k) (l := p); have := Hn.out; omega
      have d2 : wo.cell? ⟨q, m, none⟩ = some (.int .i64 (f.getD m 0)) := by rw [cell_of_row _ _ _ _ _ _ HX.out]; exact ia_get (by rw [Hfl.out]; exact hm)
      have d3 : wo.frozen? ⟨q, m, none⟩ = false := frozen_of_row _ _ _ _ _ HX.out
      have e1 : wo.drew.cell? ⟨pg, off + k, none⟩ = some (.int .u8 (m : Int)) := d1
      have e2 : wo.drew.cell? ⟨q, m, none⟩ = some (.int .i64 (f.getD m 0)) := d2
      have e3 : wo.drew.frozen? ⟨q, m, none⟩ = false := d3
      have HN : Hid (cnt (p.take (k + 1)) = f.set m (f.getD m 0 + 1)) := ⟨by
        have hkp : k < p.length := by rw [Hn.out]; exact hlt
        rw [List.take_add_one, List.getElem?_eq_getElem hkp]
        have : p[k] = (m : Int) := by rw [← Hm.out]; simp [List.getD, List.getElem?_eq_getElem hkp]
        simp only [Option.toList_some]
        rw [this, cnt_snoc, Hf.out, Int.toNat_natCast]⟩
      have HKd : Hid (kd (cnt (p.take (k + 1))) 256 = kd f 256 + if f.getD m 0 = 0 then 1 else 0) := ⟨by
        rw [HN.out, kd_set (by rw [Hfl.out]; exact hm) hle.1]
        by_cases e : f.getD m 0 = 0
        · rw [if_pos e, if_pos ⟨hm, e⟩]
        · rw [if_neg e, if_neg (fun h => e h.2)]⟩
      have hkd := kd_le f 256
      obtain ⟨kn, Hkn⟩ : ∃ x, Hid (kd f 256 = x) := ⟨_, ⟨rfl⟩⟩
      rw [Hkn.out] at hkd HKd ⊢
      obtain ⟨kn', Hkn'⟩ : ∃ x, Hid (kd (cnt (p.take (k + 1))) 256 = x) := ⟨_, ⟨rfl⟩⟩
      rw [Hkn'.out] at HKd
      generalize f.getD m 0 = y at d2 hle hle2 HN HKd e2
      have hy1 : IntKind.i64.wrap (y + 1) = y + 1 := IntWalk.i64_in _ ⟨by omega, by omega⟩
      have hcapx : cap ≤ 9223372036854775807 := hcapm
      clear hat hgb
      by_cases hy0 : y = 0
      · subst hy0
        have HKe : Hid (kn' = kn + 1) := ⟨by rw [HKd.out, if_pos rfl]⟩
        clear HKd hle hle2
        go_upto_region 10 with fail
        go_region
        go_wp2_with fail
        go_roundg (n - (k + 1))
        case measure => omega
        case rel =>
          refine ⟨k + 1, by omega, by omega, by go_num, congrArg (Value.int .i64) (by have h1 := Hkn'.out; have h2 := HKe.out; omega), ⟨(HB.out.setCell (p := ⟨q, m, none⟩) (Nat.le_refl q) _).drew⟩, ⟨?_⟩⟩
          show (wo.setCell ⟨q, m, none⟩ (.int .i64 1)).heap[q]? = _
          rw [heap_setCell_same _ _ _ _ _ _ HX.out, HN.out]
          exact congrArg (fun a => some (Obj.cells a 22 (0, 0))) (ia_set f m 1 (by rw [Hfl.out]; exact hm))
      · have HKe : Hid (kn' = kn) := ⟨by rw [HKd.out, if_neg hy0, Nat.add_zero]⟩
        have hy0b : (y == 0) = false := by simpa using hy0
        clear HKd hle hle2 hy0
        go_upto_region 10 with fail
        go_region
        go_wp2_with fail
        go_roundg (n - (k + 1))
        case measure => omega
        case rel =>
          refine ⟨k + 1, by omega, by omega, by go_num, congrArg (Value.int .i64) (by have h1 := Hkn'.out; have h2 := HKe.out; omega), ⟨(HB.out.setCell (p := ⟨q, m, none⟩) (Nat.le_refl q) _).drew⟩, ⟨?_⟩⟩
          show (wo.setCell ⟨q, m, none⟩ (.int .i64 (y + 1))).heap[q]? = _
          rw [heap_setCell_same _ _ _ _ _ _ HX.out, HN.out]
          exact congrArg (fun a => some (Obj.cells a 22 (0, 0))) (ia_set f m (y + 1) (by rw [Hfl.out]; exact hm))
    · obtain rfl : n = k := by omega
      have HXC : Hid (wo.heap[q]? = some (.cells (ia (cnt p)) 22 (0, 0))) := ⟨by have := HX.out; rw [List.take_of_length_le (by rw [Hn.out]; exact Nat.le_refl _)] at this; exact this⟩
      rw [List.take_of_length_le (by rw [Hn.out]; exact Nat.le_refl _)]
      obtain ⟨C, HC⟩ : ∃ C, Hid (cnt p = C) := ⟨_, ⟨rfl⟩⟩
      have HCl : Hid (C.length = 256) := ⟨by rw [← HC.out]; exact cnt_len p⟩
      have H0 : Hid (FineA (T0 C 256)) := ⟨by rw [← HC.out]; exact T0_fine (cnt_len p) Hbad.out⟩
      rw [HC.out] at HXC Hbad ⊢
      have t2 := lengths10 (w := wo) C HCl.out
      obtain ⟨A, HA⟩ : ∃ A, Hid (ia C = A) := ⟨_, ⟨rfl⟩⟩
      have HI : Hid ((Try.prog.info? 22).map (·.size) = some A.size) := ⟨by rw [← HA.out]; exact info22f HCl.out⟩
      rw [HA.out] at HXC t2
      have hcapx : cap ≤ 9223372036854775807 := hcapm
      clear HX
      go_wp2_with (refine wp_load rfl 22 (.tmp 4) rfl q rfl A 22 (0, 0) _ HXC.out Try.underlying22 rfl HI.out ?_)
      refine t2.mono ?_
      rintro e w2 ⟨g, z, rfl, _, hLx, hB2⟩
      obtain ⟨rfl, hL⟩ := hLx Hbad.out
      clear hLx
      have HL := Hid.mk hL
      have HG : Hid (Good C g) := ⟨hL.good H0.out⟩
      have Hgl := Hid.mk hL.len
      have HB2 : Hid (Below q w w2) := ⟨HB.out.trans (hB2.mono (by rw [← Hq.out]; exact HB.out.size))⟩
      have HKg : Hid (kd C 256 = kd g 256) := ⟨kd_same 256 HG.out.same⟩
      obtain ⟨r, Hr⟩ : ∃ q, Hid (w2.heap.size = q) := ⟨_, ⟨rfl⟩⟩
      obtain ⟨w4, Hw4, HR4, HB4⟩ := al22 w2 g
      rw [Hr.out] at Hw4 HR4
      have hqr : q ≤ r := by rw [← Hr.out, ← Hq.out]; exact HB2.out.size
      have HB4q : Hid (Below q w w4) := ⟨HB2.out.trans (HB4.out.mono (by rw [Hr.out]; exact hqr))⟩
      clear t2 hL hB2
      go_upto_region 12 with (first | (refine wp_new22 rfl rfl ?_; rw [Hr.out]) | (refine wp_put22 (f := z0) (g := g) rfl (.tmp 7) (.tmp 55) rfl rfl rfl z0_len Hgl.out (by rw [← Hr.out]; exact heap_alloc_new w2 _) ?_; rw [Hw4.out]))
      have t3 := rwords13 (w := w4) g Hgl.out
      rw [HG.out.room] at t3
      simp only [if_true] at t3
      obtain ⟨B, HBb⟩ : ∃ A, Hid (ia g = A) := ⟨_, ⟨rfl⟩⟩
      have HJ : Hid ((Try.prog.info? 22).map (·.size) = some B.size) := ⟨by rw [← HBb.out]; exact info22f Hgl.out⟩
      have HR4' := Hid.mk HR4.out
      rw [HBb.out] at HR4' t3
      go_wp2_with (refine wp_load rfl 22 (.tmp 7) rfl r rfl B 22 (0, 0) _ HR4'.out Try.underlying22 rfl HJ.out ?_)
      refine t3.mono ?_
      rintro e w5 ⟨rfl, hB5⟩
      have HR5 := Hid.mk (below_at hB5 HR4.out)
      have HB5 : Hid (Below q w w5) := ⟨HB4q.out.trans (hB5.mono (by rw [← Hq.out]; exact HB4q.out.size))⟩
      obtain ⟨s, Hs⟩ : ∃ q, Hid (w5.heap.size = q) := ⟨_, ⟨rfl⟩⟩
      obtain ⟨w7, Hw7, HS7, HB7⟩ := al28 w5 (ws g)
      rw [Hs.out] at Hw7 HS7
      have hqs : q ≤ s := by rw [← Hs.out, ← Hq.out]; exact HB5.out.size
      have HR7 := Hid.mk (below_at HB7.out HR5.out)
      have HB7q : Hid (Below q w w7) := ⟨HB5.out.trans (HB7.out.mono (by rw [Hs.out]; exact hqs))⟩
      have hwl : (ws g).length = 256 := wls_len g 61 0
      clear t3 hB5
      go_upto_region 13 with (first | (refine wp_new28 rfl rfl ?_; rw [Hs.out]) | (refine wp_put28 (f := e0) (g := ws g) rfl (.tmp 9) (.tmp 60) rfl rfl rfl e0_len hwl (by rw [← Hs.out]; exact heap_alloc_new w5 _) ?_; rw [Hw7.out]))
      have t1 := rnum_good n w7 (by omega)
      have hkd := kd_le g 256
      obtain ⟨u, Hu⟩ : ∃ x, Hid (kd g 256 = x) := ⟨_, ⟨rfl⟩⟩
      rw [HKg.out, Hu.out]
      rw [Hu.out] at hkd
      obtain ⟨ba, Hba⟩ : ∃ x, Hid (w7.heap.size = x) := ⟨_, ⟨rfl⟩⟩
      rw [Hba.out] at t1
      go_wp2_with fail
      refine t1.mono ?_
      rintro e w8 ⟨v8, rfl, hO8, hB8⟩
      have HO8 : Hid (OwnY w8 ba v8 (numB n)) := ⟨hO8⟩
      have HB8 : Hid (Below ba w7 w8) := ⟨hB8⟩
      obtain ⟨a8, c8, e, _⟩ := HO8.out.shape
      subst e
      obtain ⟨n8, Hn8⟩ : ∃ x, Hid ((numB n).length = x) := ⟨_, ⟨rfl⟩⟩
      rw [Hn8.out] at HO8 ⊢
      have t2 := rnum_good u w8 (by omega)
      clear t1 hO8 hB8
      go_upto_region 14 with fail
      go_wp2_with fail
      refine t2.mono ?_
      rintro e w9 ⟨v9, rfl, hO9, hB9⟩
      have HO9 : Hid (OwnY w9 w8.heap.size v9 (numB u)) := ⟨hO9⟩
      have HB9 := Hid.mk hB9
      obtain ⟨a9, c9, e, _⟩ := HO9.out.shape
      subst e
      obtain ⟨n9, Hn9⟩ : ∃ x, Hid ((numB u).length = x) := ⟨_, ⟨rfl⟩⟩
      rw [Hn9.out] at HO9 ⊢
      have HP9 : Hid (OwnY w9 ba (.slice a8 n8 c8) (numB n)) := ⟨HO8.out.far' HB9.out⟩
      have hba8 : ba ≤ w8.heap.size := by rw [← Hba.out]; exact HB8.out.size
      have hba9 : ba ≤ w9.heap.size := Nat.le_trans hba8 HB9.out.size
      have HB9q : Hid (Below ba w7 w9) := ⟨HB8.out.trans (HB9.out.mono hba8)⟩
      have HLl : Hid ((numB n).length ≤ 8193) := ⟨Nat.le_trans (numB_len n) (by omega)⟩
      have HLu : Hid ((numB u).length ≤ 257) := ⟨Nat.le_trans (numB_len u) (by omega)⟩
      have Hbq : Hid (q ≤ ba ∧ r < ba ∧ s < ba) := ⟨by
        have h1 := (Array.getElem?_eq_some_iff.1 HR7.out).1
        have h2 := (Array.getElem?_eq_some_iff.1 HS7.out).1
        have := Hba.out
        omega⟩
      have HRx : Hid (∀ wx, Below ba w7 wx → wx.heap[r]? = some (.cells (ia g) 22 (0, 0))) := ⟨fun wx h => (h.block r Hbq.out.2.1).trans HR7.out⟩
      have HSx : Hid (∀ wx, Below ba w7 wx → wx.heap[s]? = some (.cells (sa (ws g)) 28 (0, 0))) := ⟨fun wx h => (h.block s Hbq.out.2.2).trans HS7.out⟩
      have HBx : Hid (∀ wx, Below ba w7 wx → Below q w wx) := ⟨fun wx h => HB7q.out.trans (h.mono Hbq.out.1)⟩
      clear t2 hO9 hB9 HO8 HB8
      go_upto_region 16 with (at_builtin; refine wp_appY (xs := numB n) (ys := numB u) rfl (.tmp 73) (.tmp 74) rfl rfl HP9.out rfl HO9.out.rd (by have := HLl.out; have := HLu.out; omega) hba9 ?_; intro v10 w10 hO10 hG10 hV10)
      have HO10 : Hid (OwnY w10 ba v10 (numB n ++ numB u ++ hdR g 0)) := ⟨by rw [hdR, List.append_nil]; exact hO10⟩
      have HB10 : Hid (Below ba w7 w10) := ⟨HB9q.out.trans (hG10.below hba9 (fun y hy => (World.ownsRow.lt HP9.out y (mem_ob.1 hy)).1))⟩
      clear hO10 hG10 hV10
      go_upto_region 17 with fail
      clear HO9 HP9 HB9 HB9q HR5 HR7 HS7 HB7 HB5 HB4q HB2 HXC HR4 HR4' HB4
      go_loopg [11, 15] 256 (fun gg s11 s15 wr => ∃ (k : Nat) (v : Value), k ≤ 256 ∧ 256 - k ≤ gg ∧ s15 = .int .i64 (k : Int) ∧ v = s11 ∧ Hid (OwnY wr ba v (numB n ++ numB u ++ hdR g k)) ∧ Hid (Below ba w7 wr))
      case atStart => exact ⟨0, v10, Nat.zero_le _, by omega, rfl, rfl, HO10, HB10⟩
      case round =>
        clear HO10 HB10
        obtain ⟨k, v, hk, hgg, rfl, rfl, HO, HB⟩ := hrel
        rename World => wo
        have hqw : ba ≤ wo.heap.size := by rw [← Hba.out]; exact HB.out.size
        obtain ⟨ra, rc, e, _⟩ := HO.out.shape
        subst e
        have HLn := Hid.mk (hdR_len g k)
        have HN : Hid (numB n ++ numB u ++ hdR g (k + 1) = (numB n ++ numB u ++ hdR g k) ++ if 0 < g.getD k 0 then [(k : Int), g.getD k 0] else []) := ⟨by rw [hdR, ← List.append_assoc]⟩
        obtain ⟨l0, Hl0⟩ : ∃ x, Hid (numB n ++ numB u ++ hdR g k = x) := ⟨_, ⟨rfl⟩⟩
        have HLn2 : Hid (l0.length ≤ 9000) := ⟨by rw [← Hl0.out, List.length_append, List.length_append]; have := HLn.out; have := HLl.out; have := HLu.out; omega⟩
        rw [Hl0.out] at HO HN
        rw [Hl0.out]
        obtain ⟨rn, Hrn⟩ : ∃ x, Hid (l0.length = x) := ⟨_, ⟨rfl⟩⟩
        rw [Hrn.out] at HO
        rw [Hrn.out]
        by_cases hlt : k < 256
        · have hltz : (k : Int) < 256 := by omega
          obtain ⟨x, Hx⟩ : ∃ x, Hid (g.getD k 0 = x) := ⟨_, ⟨rfl⟩⟩
          have hx29 := HG.out.low k
          rw [Hx.out] at HN hx29
          have d1 : wo.cell? ⟨r, k, none⟩ = some (.int .i64 x) := by rw [cell_of_row _ _ _ _ _ _ (HRx.out _ HB.out), ← Hx.out]; exact ia_get (by rw [Hgl.out]; exact hlt)
          by_cases hx : 0 < x
          · rw [if_pos hx] at HN
            have hkb : (k : Int) % 256 = (k : Int) := by omega
            have hxb : x % 256 = x := by omega
            obtain ⟨z, Hz⟩ : ∃ z, Hid (wo.heap.size = z) := ⟨_, ⟨rfl⟩⟩
            have HB3 : Hid (Below wo.heap.size wo (wo.alloc (.cells #[.int .u8 (k : Int), .int .u8 x] 5))) := ⟨(Below.refl _ wo).alloc (Nat.le_refl _) _⟩
            have HR3 : Hid (RdY (wo.alloc (.cells #[.int .u8 (k : Int), .int .u8 x] 5)) (.slice (some ⟨z, 0, none⟩) 2 2) [(k : Int), x]) := ⟨by rw [← Hz.out]; exact OwnY.rd (base := 0) (own_lit wo 5 0 [(k : Int), x] #[.int .u8 (k : Int), .int .u8 x] rfl (Nat.zero_le _) (by unfold maxLen; simp))⟩
            have HO3 : Hid (OwnY (wo.alloc (.cells #[.int .u8 (k : Int), .int .u8 x] 5)) ba (.slice ra rn rc) l0) := ⟨HO.out.far' HB3.out⟩
            go_wp2_with (at_builtin; rw [Hz.out]; refine wp_appY (xs := l0) rfl (.tmp 84) (.tmp 91) rfl rfl HO3.out rfl HR3.out (by have := HLn2.out; simp only [List.length_cons, List.length_nil]; omega) (Nat.le_trans hqw HB3.out.size) ?_; intro v4 w4 hO4 hG4 hV4)
            have HO4 : Hid (OwnY w4 ba v4 (numB n ++ numB u ++ hdR g (k + 1))) := ⟨by rw [HN.out]; exact hO4⟩
            have HB4 : Hid (Below ba w7 w4) := ⟨(HB.out.trans (HB3.out.mono hqw)).trans (hG4.below (Nat.le_trans hqw HB3.out.size) (fun y hy => (World.ownsRow.lt HO3.out y (mem_ob.1 hy)).1))⟩
            clear hO4 hG4 hV4
            go_roundg (256 - (k + 1))
            case measure => omega
            case rel => exact ⟨k + 1, v4, by omega, by omega, by go_num, rfl, HO4, HB4⟩
          · rw [if_neg hx, List.append_nil] at HN
            go_wp2_with fail
            go_roundg (256 - (k + 1))
            case measure => omega
            case rel => exact ⟨k + 1, _, by omega, by omega, by go_num, rfl, ⟨by rw [HN.out]; exact HO.out⟩, HB⟩
        · obtain rfl : k = 256 := by omega
          have HH : Hid (l0 = hdB g n) := ⟨by
            rw [← Hl0.out]
            unfold hdB
            rw [hdR_kd, Hu.out, Nat.mul_div_cancel_left _ (by decide)]⟩
          obtain ⟨h0, Hh0⟩ : ∃ x, Hid (hdB g n = x) := ⟨_, ⟨rfl⟩⟩
          rw [HH.out, Hh0.out] at HO
          have HLh : Hid (h0.length ≤ 9192) := ⟨by rw [← Hh0.out]; have := hdB_len g n; omega⟩
          have HDI : Hid (DI (h0, 0, 0)) := ⟨⟨by simp, by simp⟩⟩
          clear HLn HN Hl0 HLn2 Hrn HH
          go_upto_region 24 with fail
          go_loopg [11, 16, 17, 18, 19, 20] n (fun gg s11 s16 s17 s18 _s19 _s20 wr => ∃ (k : Nat) (v : Value) (o : List Int) (x b : Nat), k ≤ n ∧ n - k ≤ gg ∧ s18 = .int .i64 (k : Int) ∧ v = s11 ∧ s16 = .int .i64 (x : Int) ∧ s17 = .int .i64 (b : Int) ∧ Hid ((o, x, b) = dst (h0, 0, 0) (pbits g (p.take k))) ∧ Hid (OwnY wr ba v o) ∧ Hid (Below ba w7 wr))
          case atStart => exact ⟨0, _, h0, 0, 0, Nat.zero_le _, by omega, rfl, rfl, rfl, rfl, ⟨by rw [List.take_zero]; rfl⟩, HO, HB⟩
          case round =>
            clear HO HB hqw
            obtain ⟨k, v, o, x, b, hk, hgg, rfl, rfl, rfl, rfl, HD, HO, HB⟩ := hrel
            rename World => wo
            have hqw : ba ≤ wo.heap.size := by rw [← Hba.out]; exact HB.out.size
            have HI0 : Hid (DI (o, x, b)) := ⟨by rw [HD.out]; exact HDI.out.all (pbits_bin g _)⟩
            have HLo : Hid (o.length ≤ 300000) := ⟨by
              have h1 := dst_len (pbits g (p.take k)) (h0, 0, 0)
              rw [← HD.out] at h1
              have h2 := pbits_len HG.out.low (p.take k)
              have h4 := List.length_take (i := k) (l := p)
              have := HLh.out
              simp only at h1
              omega⟩
            by_cases hlt : k < n
            · have hltz : (k : Int) < (n : Int) := by omega
              obtain ⟨pg, off, cap', e, hcp, hat⟩ := (HVx.out wo (HBx.out wo HB.out)).at (i := k) (by rw [Hn.out]; exact hlt)
              rw [Hn.out] at e
              simp only [Value.slice.injEq] at e
              obtain ⟨rfl, -, rfl⟩ := e
              have d1 := hat k (by rw [Hn.out]; exact hlt)
              have hgb := HBy.out.get k
              have Hpos := Hid.mk (cnt_pos HBy.out (k := k) (by rw [Hn.out]; exact hlt))
              rw [HC.out] at Hpos
              obtain ⟨m, Hm⟩ : ∃ m : Nat, Hid (p.getD k 0 = (m : Int)) := ⟨(p.getD k 0).toNat, ⟨by omega⟩⟩
              rw [Hm.out] at d1 hgb
              rw [Hm.out, Int.toNat_natCast] at Hpos
              have hm : m < 256 := by omega
              have hmz : (m : Int) < 256 := by omega
              have Hg1 : Hid (0 < g.getD m 0 ∧ g.getD m 0 ≤ 29) := ⟨(HG.out.same m hm).1 Hpos.out, (HG.out.low m).2⟩
              have d2 : wo.cell? ⟨s, m, none⟩ = some (.string (wb g m)) := by
                rw [cell_of_row _ _ _ _ _ _ (HSx.out wo HB.out), ← ws_get hm Hg1.out]
                exact sa_get (by rw [hwl]; exact hm)
              have HBW : Hid (BW (wb g m) (wbt g m)) := ⟨wb_bw g m⟩
              obtain ⟨str, Hstr⟩ : ∃ x, Hid (wb g m = x) := ⟨_, ⟨rfl⟩⟩
              have HN : Hid (pbits g (p.take (k + 1)) = pbits g (p.take k) ++ wbt g m) := ⟨by
                have hkp : k < p.length := by rw [Hn.out]; exact hlt
                rw [List.take_add_one, List.getElem?_eq_getElem hkp]
                have : p[k] = (m : Int) := by rw [← Hm.out]; simp [List.getD, List.getElem?_eq_getElem hkp]
                simp only [Option.toList_some]
                rw [this, pbits_snoc, Int.toNat_natCast]⟩
              obtain ⟨bs, Hbs⟩ : ∃ x, Hid (wbt g m = x) := ⟨_, ⟨rfl⟩⟩
              have Hbl : Hid (bs.length ≤ 29) := ⟨by rw [← Hbs.out, wbt_len]; unfold ln; have := Hg1.out; omega⟩
              rw [Hstr.out] at d2 HBW
              rw [Hbs.out] at HN HBW
              obtain ⟨N, HNn⟩ : ∃ x, Hid (bs.length = x) := ⟨_, ⟨rfl⟩⟩
              have hsz : str.size = N := HBW.out.size.trans HNn.out
              have hN29 : N ≤ 29 := by rw [← HNn.out]; exact Hbl.out
              have hcapx : cap ≤ 9223372036854775807 := hcapm
              obtain ⟨oa, oc, e, _⟩ := HO.out.shape
              subst e
              obtain ⟨on, Hon⟩ : ∃ x, Hid (o.length = x) := ⟨_, ⟨rfl⟩⟩
              rw [Hon.out] at HO ⊢
              clear hat hgb
              go_upto_region 28 with fail
              go_loopg [11, 16, 17, 20] N (fun gg2 s11 s16 s17 s20 wr => ∃ (j : Nat) (v : Value) (o' : List Int) (x' b' : Nat), j ≤ N ∧ N - j ≤ gg2 ∧ s20 = .int .i64 (j : Int) ∧ v = s11 ∧ s16 = .int .i64 (x' : Int) ∧ s17 = .int .i64 (b' : Int) ∧ Hid ((o', x', b') = dst (o, x, b) (bs.take j)) ∧ Hid (OwnY wr ba v o') ∧ Hid (Below ba w7 wr))
              case atStart => exact ⟨0, _, o, x, b, Nat.zero_le _, by omega, rfl, rfl, rfl, rfl, ⟨rfl⟩, HO, HB⟩
              case round =>
                clear HO HB hqw d1 d2
                obtain ⟨j, v, o', x', b', hj, hgg2, rfl, rfl, rfl, rfl, HD2, HO, HB⟩ := hrel
                rename World => wk
                have hqw : ba ≤ wk.heap.size := by rw [← Hba.out]; exact HB.out.size
                have HI1 : Hid (DI (o', x', b')) := ⟨by rw [HD2.out]; exact HI0.out.all (fun c hc => HBW.out.bin c (List.mem_of_mem_take hc))⟩
                have HLo2 : Hid (o'.length ≤ 300029) := ⟨by
                  have h1 := dst_len (bs.take j) (o, x, b)
                  rw [← HD2.out] at h1
                  have h4 := List.length_take (i := j) (l := bs)
                  have := HLo.out
                  have := Hbl.out
                  simp only at h1
                  omega⟩
                obtain ⟨oa, oc, e, _⟩ := HO.out.shape
                subst e
                obtain ⟨on2, Hon2⟩ : ∃ x, Hid (o'.length = x) := ⟨_, ⟨rfl⟩⟩
                rw [Hon2.out] at HO
                rw [Hon2.out]
                by_cases hjt : j < N
                · have hks : j < str.size := by omega
                  have hjz : (j : Int) < (str.size : Int) := by omega
                  obtain ⟨c, Hc⟩ : ∃ b, Hid (bs.getD j 0 = b) := ⟨_, ⟨rfl⟩⟩
                  have hsk := HBW.out.at' j hks
                  rw [Hc.out] at hsk
                  have hjb : j < bs.length := by rw [HNn.out]; exact hjt
                  have Hcj : Hid (bs[j] = c) := ⟨by rw [← Hc.out]; simp [List.getD, List.getElem?_eq_getElem hjb]⟩
                  have hc2 : c < 2 := by rw [← Hcj.out]; exact HBW.out.bin _ (List.getElem_mem _)
                  have hskz : (str[j].toNat : Int) = 48 + (c : Int) := by omega
                  have HDn : Hid (dst (o, x, b) (bs.take (j + 1)) = dst1 (o', x', b') c) := ⟨by
                    rw [List.take_add_one, List.getElem?_eq_getElem hjb]
                    simp only [Option.toList_some]
                    rw [Hcj.out, dst_snoc, ← HD2.out]⟩
                  have hb7 := HI1.out.few
                  have hx2 : x' < 128 := Nat.lt_of_lt_of_le HI1.out.low (Nat.pow_le_pow_right (by decide) hb7 : 2 ^ b' ≤ 2 ^ 7)
                  simp only at hb7
                  obtain ⟨y, Hy⟩ : ∃ y : Nat, Hid (2 * x' + c = y) := ⟨_, ⟨rfl⟩⟩
                  have hy := Hy.out
                  have he1 : IntKind.i64.wrap (2 * (x' : Int)) = 2 * (x' : Int) := IntWalk.i64_in _ ⟨by omega, by omega⟩
                  have he2 : IntKind.i64.wrap (2 * (x' : Int) + (48 + (c : Int))) = 2 * (x' : Int) + (48 + (c : Int)) := IntWalk.i64_in _ ⟨by omega, by omega⟩
                  have he3 : IntKind.i64.wrap (2 * (x' : Int) + (48 + (c : Int)) - 48) = (y : Int) := by rw [show 2 * (x' : Int) + (48 + (c : Int)) - 48 = (y : Int) by omega]; exact IntWalk.i64_in _ ⟨by omega, by omega⟩
                  have hyb : (y : Int) % 256 = (y : Int) := by omega
                  clear hsk hy
                  by_cases hb8 : b' = 7
                  · subst hb8
                    have HDe : Hid (dst1 (o', x', 7) c = (o' ++ [(y : Int)], 0, 0)) := ⟨by unfold dst1; rw [← Hy.out]; rfl⟩
                    go_wp2_with (at_builtin; refine wp_appY1 (y := (y : Int)) (xs := o') rfl (.tmp 123) (.tmp 126) rfl rfl HO.out rfl (by have := HLo2.out; omega) hqw ?_; intro v4 w4 hO4 hG4 hV4)
                    have HB4 : Hid (Below ba w7 w4) := ⟨HB.out.trans (hG4.below hqw (fun y hy => (World.ownsRow.lt HO.out y (mem_ob.1 hy)).1))⟩
                    have HO4 : Hid (OwnY w4 ba v4 (o' ++ [(y : Int)])) := ⟨hO4⟩
                    clear hO4 hG4 hV4
                    go_roundg (N - (j + 1))
                    case measure => omega
                    case rel => exact ⟨j + 1, v4, o' ++ [(y : Int)], 0, 0, by omega, by omega, by go_num, rfl, rfl, rfl, ⟨by rw [HDn.out, HDe.out]⟩, HO4, HB4⟩
                  · have hb8z : ((b' : Int) + 1 == 8) = false := by simp; omega
                    have HDe : Hid (dst1 (o', x', b') c = (o', y, b' + 1)) := ⟨by unfold dst1; rw [if_neg (by simp only; omega), Hy.out]⟩
                    go_wp2_with fail
                    go_roundg (N - (j + 1))
                    case measure => omega
                    case rel => exact ⟨j + 1, _, o', y, b' + 1, by omega, by omega, by go_num, rfl, rfl, by go_num, ⟨by rw [HDn.out, HDe.out]⟩, HO, HB⟩
                · have hjN : j = N := by omega
                  have HDn : Hid ((o', x', b') = dst (h0, 0, 0) (pbits g (p.take (k + 1)))) := ⟨by
                    rw [HN.out, dst_app, ← HD.out, HD2.out, List.take_of_length_le (by rw [HNn.out, hjN]; exact Nat.le_refl _)]⟩
                  have hjz : ¬ (j : Int) < (str.size : Int) := by omega
                  clear hjN
                  go_wp2_with fail
                  go_roundg (n - (k + 1))
                  case measure => omega
                  case rel => exact ⟨k + 1, _, o', x', b', by omega, by omega, by go_num, rfl, rfl, rfl, HDn, HO, HB⟩
            · have HDf : Hid (toW (o, x, b) = wst (h0, 0) (pbits g p)) := ⟨by
                have := HD.out
                rw [List.take_of_length_le (by rw [Hn.out]; omega)] at this
                rw [this, toW_all HDI.out (pbits_bin g p)]
                rfl⟩
              have hb7 := HI0.out.few
              have hxb := HI0.out.low
              simp only at hb7 hxb
              obtain ⟨oa, oc, e, _⟩ := HO.out.shape
              subst e
              obtain ⟨on, Hon⟩ : ∃ x, Hid (o.length = x) := ⟨_, ⟨rfl⟩⟩
              rw [Hon.out] at HO
              rw [Hon.out]
              have hltz : ¬ (k : Int) < (n : Int) := by omega
              have HPS : Hid (∀ out, (toW (o, x, b)).1 = out → PutS p out) := ⟨fun out h => ⟨g, by rw [HC.out]; exact HL.out, by rw [Hn.out, Hh0.out, ← HDf.out, h]⟩⟩
              have HBf := Hid.mk (HBx.out wo HB.out)
              by_cases hb0 : b = 0
              · subst hb0
                go_wp2_with fail
                go_ret2
                refine ⟨_, rfl, o, own_base HO.out (fun y hy => ?_), HPS.out o rfl, by rw [Hq.out]; exact HBf.out⟩
                have h1 := (World.ownsRow.lt HO.out y hy).1
                have h2 := Hbq.out.1
                have h3 := Hq.out
                omega
              · have hb0z : (0 : Int) < (b : Int) := by omega
                go_upto_region 37 with fail
                go_loopg [16, 17] 8 (fun gg2 s16 s17 wr => ∃ j : Nat, b + j ≤ 8 ∧ 8 - (b + j) ≤ gg2 ∧ s16 = .int .i64 ((x * 2 ^ j : Nat) : Int) ∧ s17 = .int .i64 ((b + j : Nat) : Int) ∧ Hid (wo = wr))
                case atStart => exact ⟨0, by omega, by omega, by simp, rfl, ⟨rfl⟩⟩
                case round =>
                  rename World => wk
                  obtain ⟨j, hj, hgg2, rfl, rfl, HW⟩ := hrel
                  have hw := HW.out
                  subst hw
                  clear HW
                  obtain ⟨t, Ht⟩ : ∃ t, Hid (b + j = t) := ⟨_, ⟨rfl⟩⟩
                  have Hy2 : Hid (x * 2 ^ j < 2 ^ t) := ⟨by
                    rw [← Ht.out, Nat.pow_add]
                    exact Nat.mul_lt_mul_of_pos_right hxb (Nat.two_pow_pos _)⟩
                  have Hyn : Hid (x * 2 ^ (j + 1) = 2 * (x * 2 ^ j)) := ⟨by rw [Nat.pow_succ, ← Nat.mul_assoc, Nat.mul_comm]⟩
                  obtain ⟨y, Hy⟩ : ∃ y, Hid (x * 2 ^ j = y) := ⟨_, ⟨rfl⟩⟩
                  rw [Hy.out] at Hy2 Hyn ⊢
                  rw [Ht.out] at hj hgg2 ⊢
                  have hy256 : y < 256 := Nat.lt_of_lt_of_le Hy2.out (Nat.pow_le_pow_right (by decide) hj : 2 ^ t ≤ 2 ^ 8)
                  by_cases ht : t < 8
                  · have htz : (t : Int) < 8 := by omega
                    have he1 : IntKind.i64.wrap (2 * (y : Int)) = 2 * (y : Int) := IntWalk.i64_in _ ⟨by omega, by omega⟩
                    go_wp2_with fail
                    go_roundg (8 - (t + 1))
                    case measure => omega
                    case rel => exact ⟨j + 1, by have := Ht.out; omega, by have := Ht.out; omega, congrArg (Value.int .i64) (by have := Hyn.out; omega), congrArg (Value.int .i64) (by have := Ht.out; omega), ⟨rfl⟩⟩
                  · have ht8 : t = 8 := by omega
                    have htz : ¬ (t : Int) < 8 := by omega
                    have HYe : Hid ((toW (o, x, b)).1 = o ++ [(y : Int)]) := ⟨by
                      unfold toW
                      rw [if_neg (by simpa using hb0)]
                      simp only
                      rw [show 8 - b = j by have := Ht.out; omega, Hy.out]⟩
                    have hyb : (y : Int) % 256 = (y : Int) := by omega
                    clear ht8
                    go_wp2_with (at_builtin; refine wp_appY1 (y := (y : Int)) (xs := o) rfl (.tmp 136) (.tmp 139) rfl rfl HO.out rfl (by have := HLo.out; omega) hqw ?_; intro v4 w4 hO4 hG4 hV4)
                    go_ret2
                    refine ⟨v4, rfl, _, own_base hO4 (fun y hy => ?_), HPS.out _ HYe.out, ?_⟩
                    · have h1 := (World.ownsRow.lt hO4 y hy).1
                      have h2 := Hbq.out.1
                      have h3 := Hq.out
                      omega
                    · rw [Hq.out]
                      exact HBf.out.trans (hG4.below (Nat.le_trans Hbq.out.1 hqw) (fun y hy => Nat.le_trans Hbq.out.1 (World.ownsRow.lt HO.out y (mem_ob.1 hy)).1))
end
end Go.Proofs.Ytfecngncapenjaa
