/- DiskLasts' walk. By gs2.py. -/
import Derived.Test.YtmcikhdfpmkpnaaS1
namespace Go.Proofs.Ytmcikhdfpmkpnaa
open Go.RowKit Go.Maps Go.Sort Go.Shelf

/-- A disk at a later world than w0; what was there stays. -/
structure St (w0 W : World) (p g bm : Nat) (D : Dk) : Prop where
  a : At W p g bm w0.heap.size D
  b : Below w0.heap.size w0 W
theorem St.next {w0 W W' : World} {p g bm : Nat} {D D' : Dk} (h : St w0 W p g bm D) (a : At W' p g bm w0.heap.size D') (c : Chg [p, g, bm] W W') : St w0 W' p g bm D' :=
  ⟨a, h.b.trans (c.below h.b.size (by have := h.a.bp; simp; omega))⟩
theorem St.below {w0 W W' : World} {p g bm : Nat} {D : Dk} (h : St w0 W p g bm D) (hb : Below W.heap.size W W') : St w0 W' p g bm D := ⟨h.a.below hb, h.b.trans (hb.mono h.b.size)⟩
theorem Chg.up1 {p g bm : Nat} {w w' : World} (h : Chg [p] w w') : Chg [p, g, bm] w w' := h.mono (by simp)
theorem Chg.up2 {p g bm : Nat} {w w' : World} (h : Chg [p, bm] w w') : Chg [p, g, bm] w w' := h.mono (by simp)

set_option maxRecDepth 8000 in
set_option maxHeartbeats 8000000 in
theorem lasts_any (n : Int) (v : Value) (ds : List Dd) (bv kv : Value) (x : Dd) (u : Value) (es : List Dd) (w : World) (hv : Deeds w v ds) (hx : DdV w w.heap.size bv kv x) (hu : Deeds w u es) : Calls Try.prog 5 #[.int .i64 n, v, ddV bv kv x, u] w fun e w' => e = .returned (.bool true) ∧ Below w.heap.size w w' := by
  have hB0 : Below w.heap.size w (w.alloc (.cells #[.int .i64 x.Do, .int .i64 x.N, bv, kv, .int .i64 x.torn, .int .i64 x.at'] 42)) := (Below.refl _ w).alloc (Nat.le_refl _) _
  have hrow : (w.alloc (.cells #[.int .i64 x.Do, .int .i64 x.N, bv, kv, .int .i64 x.torn, .int .i64 x.at'] 42)).heap[w.heap.size]? = some (.cells #[.int .i64 x.Do, .int .i64 x.N, bv, kv, .int .i64 x.torn, .int .i64 x.at'] 42 (0, 0)) := heap_alloc_new w _
  have t1 := play_any n v ds _ (hv.below hB0)
  have HX0 : Hid (DdV (w.alloc (.cells #[.int .i64 x.Do, .int .i64 x.N, bv, kv, .int .i64 x.torn, .int .i64 x.at'] 42)) (w.alloc (.cells #[.int .i64 x.Do, .int .i64 x.N, bv, kv, .int .i64 x.torn, .int .i64 x.at'] 42)).heap.size bv kv x) := ⟨hx.up hB0⟩
  have HU0 : Hid (Deeds (w.alloc (.cells #[.int .i64 x.Do, .int .i64 x.N, bv, kv, .int .i64 x.torn, .int .i64 x.at'] 42)) u es) := ⟨hu.below hB0⟩
  obtain ⟨ao, cap, rfl, _⟩ := hv
  obtain ⟨uo, ucap, rfl, _⟩ := hu
  clear hx
  unfold ddV
  go_enter Try.func5, Try.ntmps5
  generalize ds.length = dn at t1 ⊢
  go_upto_if 30 with (first
    | (go_at_call 15; generalize w.alloc (.cells #[.int .i64 x.Do, .int .i64 x.N, bv, kv, .int .i64 x.torn, .int .i64 x.at'] 42) = w0 at hB0 hrow t1 HX0 HU0 ⊢; refine t1.mono ?_; rintro e w1 ⟨p, g, bm, q, D, rfl, hP, hD, hb1⟩; clear t1; have HS1 : Hid (St w0 w1 p g bm D) := ⟨hP.a, hb1⟩; have HB0 : Hid (Below w.heap.size w w0) := ⟨hB0⟩; have HRow : Hid (w0.heap[w.heap.size]? = some (.cells #[.int .i64 x.Do, .int .i64 x.N, bv, kv, .int .i64 x.torn, .int .i64 x.at'] 42 (0, 0))) := ⟨hrow⟩; clear hP hD hb1 hB0 hrow)
    | (go_at_call 13; refine (down_any HS1.out.a).mono ?_; rintro e w2 ⟨rfl, rfl⟩))
  go_cut [30, 33] from 31 to 32 (fun _ _ wx => Hid (∃ D1, D1.down = false ∧ St w0 wx p g bm D1))
  case first =>
    cases hdn : D.down with
    | true =>
      have t2 := crash_gen HS1.out.a (.slice none 0 0) [] (-1) 0 ⟨none, 0, rfl, fun j hj => (nomatch hj)⟩ (fun h => (nomatch h))
      go_wp2_with (go_at_call 17; refine t2.mono ?_; rintro e w2 ⟨rfl, hA2, hc2⟩; clear t2; have HO : Hid (∃ D1, D1.down = false ∧ St w0 w2 p g bm D1) := ⟨⟨_, rfl, HS1.out.next hA2 hc2⟩⟩; clear hA2 hc2)
      go_meet
      exact HO
    | false =>
      go_wp2_with fail
      go_meet
      exact ⟨⟨D, hdn, HS1.out⟩⟩
  case rest =>
    obtain ⟨D1, hd1, hS2⟩ := hcut.out
    clear hcut HS1
    have HS2 : Hid (St w0 wc p g bm D1) := ⟨hS2⟩
    obtain ⟨⟨q1, q2⟩, q3⟩ := lasts_start hd1 x.N x.b
    have t2 := trip_any hS2.a 0 (by decide)
    rw [q1] at t2
    obtain ⟨D2, H2⟩ : ∃ D2, Hid (trpD D1 0 = D2) := ⟨_, ⟨rfl⟩⟩
    rw [H2.out] at t2 q2 q3
    obtain ⟨D3, H3⟩ : ∃ D3, Hid (wrD D2 x.N x.b = D3) := ⟨_, ⟨rfl⟩⟩
    rw [H3.out] at q2 q3
    obtain ⟨D4, H4⟩ : ∃ D4, Hid (fluD D3 = D4) := ⟨_, ⟨rfl⟩⟩
    rw [H4.out] at q3
    obtain ⟨ev, Hev⟩ : ∃ ev, Hid (wrE D2 x.N x.b.length = ev) := ⟨_, ⟨rfl⟩⟩
    rw [Hev.out] at q3
    have HQ2 : Hid (fluE D3 = 0) := ⟨q2⟩
    have HQ3 : Hid (ev = 0 → ∃ j : Nat, x.N = j ∧ Keeps D4 j (fil x.b) ∧ D4.down = false) := ⟨q3⟩
    clear hS2 q1 q2 q3 hd1 H2
    go_upto_if 48 with (first
      | (go_at_call 18; refine t2.mono ?_; rintro e w3 ⟨rfl, hA3, hc3⟩; clear t2; have HS3 : Hid (St w0 w3 p g bm D2) := ⟨HS2.out.next hA3 hc3.up1⟩; clear hA3 hc3; have t3 := write_any HS3.out.a x.N bv x.b (HX0.out.bs.below HS3.out.b); rw [H3.out, Hev.out] at t3; have y1 : w3.cell? ⟨w.heap.size, 1, none⟩ = some (.int .i64 x.N) := cell_of_row w3 w.heap.size 1 _ 42 _ ((HS3.out.b.block _ (Array.getElem?_eq_some_iff.1 HRow.out).1).trans HRow.out); have y2 : w3.cell? ⟨w.heap.size, 2, none⟩ = some bv := cell_of_row w3 w.heap.size 2 _ 42 _ ((HS3.out.b.block _ (Array.getElem?_eq_some_iff.1 HRow.out).1).trans HRow.out))
      | (go_at_call 19; refine t3.mono ?_; rintro e w4 ⟨rfl, hA4, hc4⟩; clear t3 y1 y2; have HS4 : Hid (St w0 w4 p g bm D3) := ⟨HS3.out.next hA4 hc4.up2⟩; clear hA4 hc4; have t4 := flush_any HS4.out.a; rw [HQ2.out, H4.out] at t4)
      | (go_at_call 20; refine t4.mono ?_; rintro e w5 ⟨rfl, hA5, hc5⟩; clear t4; have HS5 : Hid (St w0 w5 p g bm D4) := ⟨HS4.out.next hA5 hc5⟩; clear hA5 hc5))
    clear HS2 HS3 HS4 H3 H4 HQ2 Hev
    by_cases hev : ev = 0
    · obtain ⟨j, hxj, hK, hdn⟩ := HQ3.out hev
      subst hev
      have y1 : w5.cell? ⟨w.heap.size, 1, none⟩ = some (.int .i64 x.N) := cell_of_row w5 w.heap.size 1 _ 42 _ ((HS5.out.b.block _ (Array.getElem?_eq_some_iff.1 HRow.out).1).trans HRow.out)
      have t5 := read_any HS5.out.a x.N
      obtain ⟨r1, r2⟩ := keeps_rd hK hdn
      obtain ⟨L, HL⟩ : ∃ L, Hid (fil x.b = L) := ⟨_, ⟨rfl⟩⟩
      have HJ : Hid (x.N = (j : Int)) := ⟨hxj⟩
      have hyt := (rdB_byt HS5.out.a x.N).1
      rw [hxj, r1, r2, HL.out] at t5
      rw [hxj, r2, HL.out] at hyt
      have HK4 : Hid (Keeps D4 j L) := ⟨by rw [← HL.out]; exact hK⟩
      rw [hxj] at y1
      clear r1 r2 hK hdn hxj HQ3 HL
      go_upto_block 0 with (go_at_call 21; refine t5.mono ?_; rintro e w6 ⟨wv, rfl, hO6, hc6⟩; clear t5 y1; have hwf : ∀ k, wv.ownBlock = some k → k ∉ [p, g, bm] := (fun k hk => by have h1 := own_ge hO6 k hk; have h2 := HS5.out.a.lt; simp; omega); have HW6 : Hid (∃ D, St w0 w6 p g bm D ∧ Keeps D j L ∧ Bs w6 wv L) := ⟨⟨D4, HS5.out.below hc6, HK4.out, hO6.bs hyt⟩⟩; clear hO6 hc6 HS5 HK4)
      obtain ⟨uo', ucap', eu, hcell⟩ := HU0.out
      simp only [Value.slice.injEq] at eu
      obtain ⟨rfl, _, rfl⟩ := eu
      obtain ⟨m, hm⟩ : ∃ m, es.length = m := ⟨_, rfl⟩
      rw [hm] at hcell ⊢
      have HC : Hid (∀ j, j < m → ∃ b o bv kv, uo = some ⟨b, o, none⟩ ∧ b < w0.heap.size ∧ w0.cell? ⟨b, o + j * 6, none⟩ = some (.int .i64 (es.getD j default).Do) ∧ w0.cell? ⟨b, o + j * 6 + 1, none⟩ = some (.int .i64 (es.getD j default).N) ∧ w0.cell? ⟨b, o + j * 6 + 2, none⟩ = some bv ∧ w0.cell? ⟨b, o + j * 6 + 3, none⟩ = some kv ∧ w0.cell? ⟨b, o + j * 6 + 4, none⟩ = some (.int .i64 (es.getD j default).torn) ∧ w0.cell? ⟨b, o + j * 6 + 5, none⟩ = some (.int .i64 (es.getD j default).at') ∧ DdV w0 w0.heap.size bv kv (es.getD j default)) := ⟨hcell⟩
      clear hcell hm HU0
      go_cut [16] from 57 to 118 (fun _ wx => Hid (∃ D, St w0 wx p g bm D ∧ Keeps D j L ∧ Bs wx wv L))
      case first =>
        go_wp2_with fail
        go_loopg [16, 17] 100 (fun gg s _ wq => ∃ i : Nat, i ≤ m ∧ i ≤ 100 ∧ 100 - i ≤ gg ∧ s = .int .i64 (i : Int) ∧ Hid (∃ D, St w0 wq p g bm D ∧ Keeps D j L ∧ Bs wq wv L))
        case atStart => exact ⟨0, Nat.zero_le _, by omega, by omega, rfl, HW6⟩
        case round =>
          clear HW6
          obtain ⟨i, hin, hi8, hgg, rfl, HS⟩ := hrel
          rename World => wq
          by_cases hlt : i < m
          · by_cases hlt8 : i < 100
            · have hltz : (i : Int) < (m : Int) := by omega
              have hlt8z : (i : Int) < 100 := by omega
              obtain ⟨D, hS, hK, hW⟩ := HS.out
              obtain ⟨zb, zo, ev, ew, rfl, hzl, z0, z1, z2, z3, z4, z5, hdd⟩ := HC.out i hlt
              have y0 := (hS.b.cell (p := ⟨zb, zo + i * 6, none⟩) hzl).trans z0
              have y1 := (hS.b.cell (p := ⟨zb, zo + i * 6 + 1, none⟩) hzl).trans z1
              have y2 := (hS.b.cell (p := ⟨zb, zo + i * 6 + 2, none⟩) hzl).trans z2
              have y3 := (hS.b.cell (p := ⟨zb, zo + i * 6 + 3, none⟩) hzl).trans z3
              have y4 := (hS.b.cell (p := ⟨zb, zo + i * 6 + 4, none⟩) hzl).trans z4
              have y5 := (hS.b.cell (p := ⟨zb, zo + i * 6 + 5, none⟩) hzl).trans z5
              clear z0 z1 z2 z3 z4 z5
              generalize es.getD i default = y at y0 y1 y2 y3 y4 y5 hdd
              obtain ⟨ea, ec, e1, _⟩ := hdd.bs
              obtain ⟨ka, kc, e2, _⟩ := hdd.ks
              subst e1 e2
              have hbl := (Below.refl _ wq).alloc (Nat.le_refl _) (.cells #[.int .i64 y.Do, .int .i64 y.N, .slice ea y.b.length ec, .slice ka y.ks.length kc, .int .i64 y.torn, .int .i64 y.at'] 42)
              have HSa : Hid (St w0 (wq.alloc (.cells #[.int .i64 y.Do, .int .i64 y.N, .slice ea y.b.length ec, .slice ka y.ks.length kc, .int .i64 y.torn, .int .i64 y.at'] 42)) p g bm D ∧ Keeps D j L ∧ Bs (wq.alloc (.cells #[.int .i64 y.Do, .int .i64 y.N, .slice ea y.b.length ec, .slice ka y.ks.length kc, .int .i64 y.torn, .int .i64 y.at'] 42)) wv L) := ⟨hS.below hbl, hK, hW.below hbl⟩
              have hyr : (wq.alloc (.cells #[.int .i64 y.Do, .int .i64 y.N, .slice ea y.b.length ec, .slice ka y.ks.length kc, .int .i64 y.torn, .int .i64 y.at'] 42)).heap[wq.heap.size]? = some (.cells #[.int .i64 y.Do, .int .i64 y.N, .slice ea y.b.length ec, .slice ka y.ks.length kc, .int .i64 y.torn, .int .i64 y.at'] 42 (0, 0)) := heap_alloc_new wq _
              have Hdd : Hid (DdV w0 w0.heap.size (.slice ea y.b.length ec) (.slice ka y.ks.length kc) y) := ⟨hdd⟩
              clear hS hK hW hdd hbl HS
              go_upto_region 19 with fail
              generalize wq.alloc (.cells #[.int .i64 y.Do, .int .i64 y.N, .slice ea y.b.length ec, .slice ka y.ks.length kc, .int .i64 y.torn, .int .i64 y.at'] 42) = W at HSa hyr ⊢
              clear y0 y1 y2 y3 y4 y5
              generalize wq.heap.size = B1 at hyr ⊢
              have y0 : W.cell? ⟨B1, 0, none⟩ = some (.int .i64 y.Do) := cell_of_row W B1 0 _ 42 _ hyr
              have y1 : W.cell? ⟨B1, 1, none⟩ = some (.int .i64 y.N) := cell_of_row W B1 1 _ 42 _ hyr
              have y2 : W.cell? ⟨B1, 2, none⟩ = some (.slice ea y.b.length ec) := cell_of_row W B1 2 _ 42 _ hyr
              have y3 : W.cell? ⟨B1, 3, none⟩ = some (.slice ka y.ks.length kc) := cell_of_row W B1 3 _ 42 _ hyr
              have y4 : W.cell? ⟨B1, 4, none⟩ = some (.int .i64 y.torn) := cell_of_row W B1 4 _ 42 _ hyr
              have y5 : W.cell? ⟨B1, 5, none⟩ = some (.int .i64 y.at') := cell_of_row W B1 5 _ 42 _ hyr
              have x1 : W.cell? ⟨w.heap.size, 1, none⟩ = some (.int .i64 (j : Int)) := by
                rw [← HJ.out]
                exact cell_of_row W w.heap.size 1 _ 42 _ ((HSa.out.1.b.block _ (Array.getElem?_eq_some_iff.1 HRow.out).1).trans HRow.out)
              have hfn : 0 < y.ks.length → ∀ k, (Value.slice ka y.ks.length kc).ownBlock = some k → k ≠ g ∧ k ≠ bm := fun h0 k hk => by
                have h1 := Hdd.out.fk h0 k hk
                have h2 := HSa.out.1.a.bp
                omega
              clear hyr
              by_cases h0 : y.Do = 0
              · by_cases hne : y.N = (j : Int)
                · have HO : Hid (∃ D, St w0 W p g bm D ∧ Keeps D j L ∧ Bs W wv L) := ⟨⟨D, HSa.out⟩⟩
                  clear hfn Hdd HSa
                  go_wp2_with fail
                  go_roundg (100 - (i + 1))
                  case measure => omega
                  case rel => exact ⟨i + 1, by omega, by omega, by omega, by go_num, HO⟩
                · have t7 := write_any HSa.out.1.a y.N (.slice ea y.b.length ec) y.b (Hdd.out.bs.below HSa.out.1.b)
                  go_wp2_with (go_at_call 19; refine t7.mono ?_; rintro e W1 ⟨rfl, hA, hc⟩; clear t7; have HO : Hid (∃ D, St w0 W1 p g bm D ∧ Keeps D j L ∧ Bs W1 wv L) := ⟨⟨_, HSa.out.1.next hA hc.up2, keeps_wr HSa.out.2.1 _ _ hne, HSa.out.2.2.far hc.up2 (fun _ => hwf)⟩⟩; clear hA hc)
                  go_roundg (100 - (i + 1))
                  case measure => omega
                  case rel => exact ⟨i + 1, by omega, by omega, by omega, by go_num, HO⟩
              · by_cases h2 : y.Do = 2
                · have t7 := flush_any HSa.out.1.a
                  go_wp2_with (go_at_call 20; refine t7.mono ?_; rintro e W1 ⟨rfl, hA, hc⟩; clear t7; have HO : Hid (∃ D, St w0 W1 p g bm D ∧ Keeps D j L ∧ Bs W1 wv L) := ⟨⟨_, HSa.out.1.next hA hc, keeps_flu HSa.out.2.1, HSa.out.2.2.far hc (fun _ => hwf)⟩⟩; clear hA hc)
                  go_roundg (100 - (i + 1))
                  case measure => omega
                  case rel => exact ⟨i + 1, by omega, by omega, by omega, by go_num, HO⟩
                · by_cases h3 : y.Do = 3
                  · have t7 := trip_any HSa.out.1.a y.N Hdd.out.n
                    go_wp2_with (go_at_call 18; refine t7.mono ?_; rintro e W1 ⟨rfl, hA, hc⟩; clear t7; have HO : Hid (∃ D, St w0 W1 p g bm D ∧ Keeps D j L ∧ Bs W1 wv L) := ⟨⟨_, HSa.out.1.next hA hc.up1, keeps_trp HSa.out.2.1 _, HSa.out.2.2.far hc.up1 (fun _ => hwf)⟩⟩; clear hA hc)
                    go_roundg (100 - (i + 1))
                    case measure => omega
                    case rel => exact ⟨i + 1, by omega, by omega, by omega, by go_num, HO⟩
                  · by_cases h4 : y.Do = 4
                    · have t7 := crash_gen HSa.out.1.a (.slice ka y.ks.length kc) y.ks y.torn y.at' (Hdd.out.ks.below HSa.out.1.b) hfn
                      go_wp2_with (go_at_call 17; refine t7.mono ?_; rintro e W1 ⟨rfl, hA, hc⟩; clear t7; have HO : Hid (∃ D, St w0 W1 p g bm D ∧ Keeps D j L ∧ Bs W1 wv L) := ⟨⟨_, HSa.out.1.next hA hc, keeps_cr HSa.out.2.1 _, HSa.out.2.2.far hc (fun _ => hwf)⟩⟩; clear hA hc)
                      go_roundg (100 - (i + 1))
                      case measure => omega
                      case rel => exact ⟨i + 1, by omega, by omega, by omega, by go_num, HO⟩
                    · by_cases h5 : y.Do = 5
                      · by_cases hne : y.N = (j : Int)
                        · have HO : Hid (∃ D, St w0 W p g bm D ∧ Keeps D j L ∧ Bs W wv L) := ⟨⟨D, HSa.out⟩⟩
                          clear hfn Hdd HSa
                          go_wp2_with fail
                          go_roundg (100 - (i + 1))
                          case measure => omega
                          case rel => exact ⟨i + 1, by omega, by omega, by omega, by go_num, HO⟩
                        · have t7 := rot_any HSa.out.1.a y.N (.slice ea y.b.length ec) y.b (Hdd.out.bs.below HSa.out.1.b)
                          go_wp2_with (go_at_call 22; refine t7.mono ?_; rintro e W1 ⟨rfl, hA, hc⟩; clear t7; have HO : Hid (∃ D, St w0 W1 p g bm D ∧ Keeps D j L ∧ Bs W1 wv L) := ⟨⟨_, HSa.out.1.next hA hc, keeps_rot HSa.out.2.1 _ _ hne, HSa.out.2.2.far hc (fun _ => hwf)⟩⟩; clear hA hc)
                          go_roundg (100 - (i + 1))
                          case measure => omega
                          case rel => exact ⟨i + 1, by omega, by omega, by omega, by go_num, HO⟩
                      · have t7 := read_any HSa.out.1.a y.N
                        go_wp2_with (go_at_call 21; refine t7.mono ?_; rintro e W1 ⟨rv, rfl, _, hb⟩; clear t7; have HO : Hid (∃ D, St w0 W1 p g bm D ∧ Keeps D j L ∧ Bs W1 wv L) := ⟨⟨D, HSa.out.1.below hb, HSa.out.2.1, HSa.out.2.2.below hb⟩⟩; clear hb)
                        go_roundg (100 - (i + 1))
                        case measure => omega
                        case rel => exact ⟨i + 1, by omega, by omega, by omega, by go_num, HO⟩
            · obtain rfl : i = 100 := by omega
              have hltz : ((100 : Nat) : Int) < (m : Int) := by omega
              go_wp2_with fail
              go_meet
              exact HS
          · obtain rfl : i = m := by omega
            go_wp2_with fail
            go_meet
            exact HS
      case rest =>
        obtain ⟨D, hS, hK, hW⟩ := hcut.out
        have HS : Hid (St w0 wc p g bm D ∧ Keeps D j L ∧ Bs wc wv L) := ⟨hS, hK, hW⟩
        have hrw := (hS.b.block _ (Array.getElem?_eq_some_iff.1 HRow.out).1).trans HRow.out
        have y3 : wc.cell? ⟨w.heap.size, 3, none⟩ = some kv := cell_of_row wc w.heap.size 3 _ 42 _ hrw
        have y4 : wc.cell? ⟨w.heap.size, 4, none⟩ = some (.int .i64 x.torn) := cell_of_row wc w.heap.size 4 _ 42 _ hrw
        have y5 : wc.cell? ⟨w.heap.size, 5, none⟩ = some (.int .i64 x.at') := cell_of_row wc w.heap.size 5 _ 42 _ hrw
        have hfn : 0 < x.ks.length → ∀ k, kv.ownBlock = some k → k ≠ g ∧ k ≠ bm := fun h0 k hk => by
          have h1 := HX0.out.fk h0 k hk
          have h2 := hS.a.bp
          omega
        have t8 := crash_gen hS.a kv x.ks x.torn x.at' (HX0.out.ks.below hS.b) hfn
        clear hcut hS hK hW hrw hfn HW6 HC
        go_wp2_with (first
          | (go_at_call 17; refine t8.mono ?_; rintro e w8 ⟨rfl, hA8, hc8⟩; clear t8 y3 y4 y5; have HS8 : Hid (St w0 w8 p g bm (crD D ⟨x.ks, x.torn, x.at'⟩) ∧ Keeps (crD D ⟨x.ks, x.torn, x.at'⟩) j L ∧ Bs w8 wv L) := ⟨HS.out.1.next hA8 hc8, keeps_cr HS.out.2.1 _, HS.out.2.2.far hc8 (fun _ => hwf)⟩; clear hA8 hc8 HS; have z1 : w8.cell? ⟨w.heap.size, 1, none⟩ = some (.int .i64 (j : Int)) := (by rw [← HJ.out]; exact cell_of_row w8 w.heap.size 1 _ 42 _ ((HS8.out.1.b.block _ (Array.getElem?_eq_some_iff.1 HRow.out).1).trans HRow.out)); have t9 := read_any HS8.out.1.a (j : Int); have hy9 := (rdB_byt HS8.out.1.a (j : Int)).1; rw [(keeps_rd HS8.out.2.1 rfl).2] at t9 hy9; rw [(keeps_rd HS8.out.2.1 rfl).1] at t9)
          | (go_at_call 21; refine t9.mono ?_; rintro e w9 ⟨rv, rfl, hO9, hb9⟩; clear t9 z1; have HS9 : Hid (St w0 w9 p g bm (crD D ⟨x.ks, x.torn, x.at'⟩) ∧ Bs w9 wv L ∧ Bs w9 rv L) := ⟨HS8.out.1.below hb9, HS8.out.2.2.below hb9, hO9.bs hy9⟩; clear hO9 hb9 HS8)
          | (go_at_call 10; refine (live_any _).mono ?_; rintro e w10 ⟨rfl, hb⟩; have r1 := run_str (HS9.out.2.1.below hb); have r2 := run_str (HS9.out.2.2.below hb); have HO : Hid (Below w.heap.size w w10) := ⟨HB0.out.trans ((HS9.out.1.b.mono HB0.out.size).trans (hb.mono (Nat.le_trans HB0.out.size HS9.out.1.b.size)))⟩; generalize strOfNums L = sL at r1 r2; clear hb HS9))
        go_ret
        exact ⟨rfl, HO.out⟩
    · clear HQ3
      go_wp2_with (go_at_call 10; refine (live_any _).mono ?_; rintro e w6 ⟨rfl, hb6⟩; have HO : Hid (Below w.heap.size w w6) := ⟨HB0.out.trans ((HS5.out.b.mono HB0.out.size).trans (hb6.mono (Nat.le_trans HB0.out.size HS5.out.b.size)))⟩; clear hb6)
      go_ret
      exact ⟨rfl, HO.out⟩
theorem walk_diskLasts (n : Int) (v : Value) (ds : List Dd) (xv : Value) (x : Dd) (u : Value) (es : List Dd) (w : World) (_ : (Lit.int .i64 n).wf = true) (hv : Deeds w v ds) (hx : DeedV w xv x) (hu : Deeds w u es) : Calls Try.prog 5 #[.int .i64 n, v, xv, u] w fun e w' => e = .returned (.bool true) ∧ Below w.heap.size w w' := by
  obtain ⟨bv, kv, rfl, hd⟩ := hx
  exact lasts_any n v ds bv kv x u es w hv hd hu
end Go.Proofs.Ytmcikhdfpmkpnaa
