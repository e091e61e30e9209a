/- The law's whole group. -/
import Derived.Test.YtbdmbhpmbklaiaaU1
import Derived.Lib.MinMax
import Derived.Deep.RegionLaw
namespace Go.Proofs.Ytbdmbhpmbklaiaa
open Go.RowKit Gf

theorem rdG_take {w : World} {ad : Addr} {n c : Nat} {l : List G} (h : RdG w (.slice (some ad) n c) l) {k : Nat} (hk : k ≤ n) : RdG w (.slice (some ad) k c) (l.take k) := by
  obtain ⟨a, cap, e, h1, h2, h3, h4⟩ := h
  simp only [Value.slice.injEq] at e
  obtain ⟨rfl, rfl, rfl⟩ := e
  simp only [yv_len, List.length_map] at hk h1 h4
  refine ⟨some ad, c, ?_, ?_, h2, h3, ?_⟩
  · rw [yv_len, List.length_map, List.length_take, Nat.min_eq_left hk]
  · rw [yv_len, List.length_map, List.length_take]; omega
  · intro x hx i hi
    rw [yv_len, List.length_map, List.length_take] at hi
    rw [h4 x hx i (by omega)]
    simp only [yv, List.getElem?_map, List.getElem?_take]
    rw [if_pos (by omega)]
theorem run_appG (W : World) {base : Nat} {v u : Value} {xs ys : List G} (hown : OwnG W base v xs) (hu : RdG W u ys) (hlen : xs.length + ys.length ≤ 1000000000000) (hbase : base ≤ W.heap.size) :
    ∃ v' w', (Builtin.append_ #[33, 33] 33 #[v, u]).run Try.prog W = .ok v' w' ∧ OwnG w' base v' (xs ++ ys) ∧ Chg (ob v) W w' ∧ (v'.ownBlock = v.ownBlock ∨ v'.ownBlock = some W.heap.size) := by
  obtain ⟨i0, hi, hz0, hz1, hz2⟩ := info_parts' infoByte
  obtain ⟨ao, cap, rfl, hl, hm, hn, hc⟩ := hu
  cases ao with
  | none =>
    have hcap := hn rfl
    subst hcap
    have hy : ys = [] := by rw [yv_len, List.length_map] at hl; exact List.length_eq_zero_iff.1 (by omega)
    subst hy
    refine ⟨v, W, ?_, by rw [List.append_nil]; exact hown, Chg.refl _ _, .inl rfl⟩
    exact run_append_owned_none (P := Try.prog) (w := W) base 33 33 5 i0 1 Try.underlying33 hi v _ _ hown
  | some ad =>
    obtain ⟨v', w', hr, h1, h2, h3⟩ := run_append_at (P := Try.prog) W base 33 33 5 i0 (.int .u8 0) 1 Try.underlying33 hi hz0 hz1 hz2 rfl v (xs.map gi).length _ hown ad (yv (ys.map gi)).length cap (yv (ys.map gi)) rfl (fun j u hj => by
      have hjl : j < (yv (ys.map gi)).length := by
        rcases Nat.lt_or_ge j (yv (ys.map gi)).length with h | h
        · exact h
        · rw [List.getElem?_eq_none h] at hj; cases hj
      rw [hc ad rfl j hjl]
      exact hj) (yv_one _) (by rw [yv_len, List.length_map, List.length_map]; unfold maxLen; omega) (by rw [yv_len, List.length_map, List.length_map]; omega) hbase
    refine ⟨v', w', hr, ?_, Chg.ofGrown h2, h3⟩
    unfold OwnG OwnY
    rw [List.map_append, yv_app, List.length_append]
    rw [yv_len] at h1
    exact h1
theorem step_appG {ops : Array Oper} {o : Oper} {a : Act} {w : World} {K : Act → World → Prop} {Q : Exit → Act → World → Prop} {E : Prop} {v u v' : Value} {w' : World}
    (hg : o.guard = none) (hty : o.type = 33) (s x : Operand) (hop : o.op = Op.call { callee := Callee.builtin Builtin.append, args := #[s, x], argTypes := #[33, 33] })
    (hs : a.eval s = v) (hx : a.eval x = u) (hrun : (Builtin.append_ #[33, 33] 33 #[v, u]).run Try.prog w = .ok v' w')
    (hK : K (a.put o.dst v') w') :
    if Region.wanted o (yielded ops a.tmps) = true then Oper.wp Try.prog o a w K Q else E := by
  have hw : Region.wanted o (yielded ops a.tmps) = true := by simp [Region.wanted, hg]
  rw [if_pos hw]
  unfold Oper.wp
  simp [execOp, hop, resolve, invoke, builtin, hs, hx, hty, hrun, Result.andThen]
  exact hK
/-- What the law's whole answers. -/
def WhV (w' : World) (base m : Nat) (D : List Sd) (v : Value) (z : Bool) : Prop := (D.length = 0 ∧ z = false) ∨ (∃ N, Even D N ∧ N ≤ 20 ∧ D.length ≤ 8 ∧ z = true ∧ OwnR w' (0, 5) base v (whl D m))
section
variable {w : World}
set_option maxHeartbeats 8000000 in
set_option maxRecDepth 100000 in
theorem whole20 (v : Value) (L : List Sd) (m : Nat) {B : Nat × TypeId} (hv : RdR w B v L) (hm : m ≤ 16) :
    Calls Try.prog 20 #[v, .int .i64 (m : Int)] w fun e w' => ∃ a n c D z, e = .returned (.tuple #[.slice a n c, .int .i64 (D.length : Nat), .bool z]) ∧ WhV w' w.heap.size m D (.slice a n c) z ∧ Below w.heap.size w w' := by
  obtain ⟨va, vc, rfl, h1, h2, _⟩ := hv.shape
  have HV := Hid.mk hv
  obtain ⟨n, Hn⟩ : ∃ n, Hid (L.length = n) := ⟨_, ⟨rfl⟩⟩
  rw [Hn.out] at h1 HV ⊢
  clear hv
  have hvc : (vc : Int) ≤ 9223372036854775807 := by unfold maxLen at h2; omega
  have HE := Hid.mk (OwnR.nil w (0, 5) w.heap.size)
  have HB0 := Hid.mk (Below.refl w.heap.size w)
  go_enter Try.func20, Try.ntmps20
  go_upto_region 4 with fail
  go_loopg [8, 9] 8 (fun gg s8 s9 wr => ∃ (i N : Nat), i ≤ 8 ∧ i ≤ n ∧ 8 - i ≤ gg ∧ s9 = .int .i64 (i : Int) ∧ s8 = .int .i64 (N : Int) ∧ N ≤ 20 ∧ Hid (∀ j, j < i → min (sl (L.getD j none)).length 20 ≤ N) ∧ wr = w)
  case atStart => exact ⟨0, 0, by omega, by omega, by omega, rfl, rfl, by omega, ⟨fun j hj => by omega⟩, rfl⟩
  case round =>
    obtain ⟨i, N, hi8, hin, hgg, rfl, rfl, hN, HN, rfl⟩ := hrel
    by_cases hlt : i < n ∧ i < 8
    · obtain ⟨hlt, hl8⟩ := hlt
      have hltz : (i : Int) < (n : Int) := by omega
      have hl8z : (i : Int) < 8 := by omega
      have hiL : i < L.length := by rw [Hn.out]; exact hlt
      obtain ⟨b, off, cap, e, _, hc⟩ := HV.out.at hiL
      rw [Hn.out] at e
      simp only [Value.slice.injEq] at e
      obtain ⟨rfl, -, rfl⟩ := e
      obtain ⟨sa, sc, c1, _, _, _, hs⟩ := hc i hiL
      obtain ⟨rn, Hrn⟩ : ∃ r', Hid ((sl (L.getD i none)).length = r') := ⟨_, ⟨rfl⟩⟩
      rw [Hrn.out] at c1
      clear hc hs
      go_wp2_with fail
      go_roundg (8 - (i + 1))
      case measure => omega
      case rel =>
        refine ⟨i + 1, max N (min rn 20), by omega, by omega, by omega, by go_num, ?_, by omega, ⟨fun j hj => ?_⟩, rfl⟩
        · congr 1; omega
        · by_cases e : j = i
          · subst e; rw [Hrn.out]; omega
          · have := HN.out j (by omega); omega
    · have HNk : Hid (∀ j, j < n → j < 8 → min (sl (L.getD j none)).length 20 ≤ N) := ⟨fun j h1 h2 => HN.out j (by omega)⟩
      have hex : ¬ ((i : Int) < (n : Int)) ∨ ((i : Int) < (n : Int) ∧ ¬ ((i : Int) < 8)) := by omega
      clear HN hlt hgg hi8 hin
      rename World => w
      rcases hex with hex | ⟨hex, hex8⟩
      all_goals
        go_upto_region 8 with fail
        clear hex
        try clear hex8
        go_loopg [7, 10, 11] 8 (fun gg s7 s10 s11 wr => ∃ (i : Nat) (D : List Sd), i ≤ 8 ∧ i ≤ n ∧ 8 - i ≤ gg ∧ s10 = .int .i64 (i : Int) ∧ D.length = i ∧ Hid (∀ j, j < i → (sl (D.getD j none)).length = N ∧ (D.getD j none).isSome = true) ∧ Hid (OwnR wr (0, 5) w.heap.size s7 D) ∧ Hid (Below w.heap.size w wr))
        case atStart => exact ⟨0, [], by omega, by omega, by omega, rfl, rfl, ⟨fun j hj => by omega⟩, HE, HB0⟩
        case round =>
          clear HE HB0
          obtain ⟨i, D, hi8, hin, hgg, rfl, hDl, HD, HO, HB⟩ := hrel
          rename World => wo
          by_cases hlt : i < n ∧ i < 8
          · obtain ⟨hlt, hl8⟩ := hlt
            have hltz : (i : Int) < (n : Int) := by omega
            have hl8z : (i : Int) < 8 := by omega
            have hiL : i < L.length := by rw [Hn.out]; exact hlt
            obtain ⟨b, off, cap, e, _, hc⟩ := (HV.out.below HB.out).at hiL
            rw [Hn.out] at e
            simp only [Value.slice.injEq] at e
            obtain ⟨rfl, -, rfl⟩ := e
            obtain ⟨sa, sc, c1, _, hsc, hsm, hs⟩ := hc i hiL
            have HS := Hid.mk hs.rd
            obtain ⟨rn, Hrn⟩ : ∃ r', Hid ((sl (L.getD i none)).length = r') := ⟨_, ⟨rfl⟩⟩
            rw [Hrn.out] at c1 hsc HS
            have hbw : b < wo.heap.size := World.block_lt_of_cell? _ _ c1
            have hBa : Below wo.heap.size wo (wo.alloc (.cells #[] 5)) := (Below.refl _ wo).alloc (Nat.le_refl _) _
            have c2 : (wo.alloc (.cells #[] 5)).cell? ⟨b, off + i, none⟩ = some (.slice sa rn sc) := (hBa.cell (p := ⟨b, off + i, none⟩) hbw).trans c1
            have hBd : Below wo.heap.size wo (wo.alloc (.cells #[] 5)).drew := below_drewN hBa 1
            have hOa : OwnG (wo.alloc (.cells #[] 5)).drew wo.heap.size (.slice (some ⟨wo.heap.size, 0, none⟩) 0 0) [] := OwnG.far (owny_none wo) (Chg.refl ([] : List Nat) _).drew (by simp)
            have hSd : RdG (wo.alloc (.cells #[] 5)).drew (.slice sa rn sc) (sl (L.getD i none)) := (HS.out.far (Chg.ofBelow (X := []) hBd) (by simp))
            clear hc hs
            have hsl : ∃ ys u, RdG (wo.alloc (.cells #[] 5)).drew u ys ∧ ys.length = min rn 20 ∧ u = .slice sa (min rn 20) sc := by
              cases sa with
              | none =>
                obtain ⟨a', c', e, h1', _, h3'⟩ := hSd.shape
                simp only [Value.slice.injEq] at e
                obtain ⟨rfl, h5, rfl⟩ := e
                have := h3' rfl
                have h0 : rn = 0 := by omega
                subst h0
                exact ⟨_, _, hSd, by omega, rfl⟩
              | some ad => exact ⟨_, _, rdG_take hSd (Nat.min_le_left rn 20), by rw [List.length_take, Hrn.out]; omega, rfl⟩
            obtain ⟨ys, u, hu, hyl, rfl⟩ := hsl
            obtain ⟨v7, w7, hr7, hO7, hG7, hV7⟩ := run_appG _ hOa hu (by rw [hyl, List.length_nil]; omega) (by have := hBd.size; omega)
            have hmz : min (rn : Int) 20 = ((min rn 20 : Nat) : Int) := by omega
            obtain ⟨q, Hq⟩ : ∃ q, Hid (min rn 20 = q) := ⟨_, ⟨rfl⟩⟩
            have hqs : q ≤ sc := by rw [← Hq.out]; omega
            rw [Hq.out] at hmz hyl hr7
            clear hu hOa hSd hBa
            have HO7 := Hid.mk hO7
            have HG7 := Hid.mk hG7
            have HV7 := Hid.mk hV7
            have HBd := Hid.mk hBd
            clear hO7 hG7 hV7 hBd
            have hob : v7.ownBlock ≠ none := by rcases HV7.out with h | h <;> rw [h] <;> simp [Value.ownBlock]
            obtain ⟨a7, c7, e7, _⟩ := HO7.out.rd.shape
            rw [List.nil_append] at e7
            subst e7
            have HB7 : Hid (Below wo.heap.size wo w7) := ⟨HBd.out.trans (HG7.out.below HBd.out.size (fun k hk => by simp [ob, Value.ownBlock] at hk; omega))⟩
            have HO7' : Hid (OwnG w7 wo.heap.size (.slice a7 ys.length c7) ys) := ⟨by have := HO7.out; rw [List.nil_append] at this; exact this⟩
            have hqN : q ≤ N := by rw [← Hq.out, ← Hrn.out]; exact HNk.out i hlt hl8
            clear HO7 HG7 HV7 HBd
            go_upto_region 10 with fail
            go_cut [11] from 42 to 54 (fun s11 wx => s11 = .slice a7 ys.length c7 ∧ wx = w7)
            case first =>
              cases sa with
              | none =>
                have hsc0 : rn = 0 ∧ sc = 0 ∧ q = 0 := by
                  obtain ⟨a', c', e, h1', _, h3'⟩ := HS.out.shape
                  simp only [Value.slice.injEq] at e
                  obtain ⟨rfl, h5, rfl⟩ := e
                  have := h3' rfl
                  omega
                obtain ⟨rfl, rfl, rfl⟩ := hsc0
                have hm0 : min (0 : Int) 20 = 0 := by decide
                go_region_law (refine step_appG rfl rfl (.tmp 42) (.tmp 53) rfl (by simp [Act.eval, Act.put]) (by simp [Act.eval, Act.put]) hr7 ?_)
                all_goals
                  go_wp2_with fail
                  go_meet
                  exact ⟨by rw [hyl], rfl⟩
              | some ad =>
                go_region_law (refine step_appG rfl rfl (.tmp 42) (.tmp 53) rfl (by simp [Act.eval, Act.put]) (by simp [Act.eval, Act.put]) hr7 ?_)
                all_goals
                  go_wp2_with fail
                  go_meet
                  exact ⟨by rw [hyl], rfl⟩
            case rest =>
              obtain ⟨rfl, rfl⟩ := hcut
              clear hr7 c1 c2
              go_upto_region 11 with fail
              go_loopg [11] 20 (fun gg s11 wr => ∃ (r : List G) (a : Option Addr) (c : Nat), s11 = .slice a r.length c ∧ s11.ownBlock ≠ none ∧ r.length ≤ N ∧ N - r.length ≤ gg ∧ Hid (OwnG wr wo.heap.size s11 r) ∧ Hid (Below wo.heap.size wo wr))
              case atStart => exact ⟨ys, a7, c7, rfl, hob, by omega, by omega, HO7', HB7⟩
              case round =>
                clear HO7' HB7 hob
                obtain ⟨r, ra, rc, rfl, hob, hrN, hgr, HOr, HBr⟩ := hrel
                rename World => wr
                by_cases hrl : r.length < N
                · have hrlz : (r.length : Int) < (N : Int) := by omega
                  have hbs := HBr.out.size
                  obtain ⟨rl, Hrl⟩ : ∃ y, Hid (r.length = y) := ⟨_, ⟨rfl⟩⟩
                  have hml : (r.map gi).length ≤ 1000000000000 := by rw [List.length_map]; omega
                  rw [Hrl.out] at HOr hrl hrlz hrN hgr hob ⊢
                  go_wp2_with (refine wp_appY1 (y := 0) rfl (.tmp 59) (.tmp 60) rfl rfl (show OwnY _ _ _ (r.map gi) from HOr.out) rfl hml hbs ?_; intro v9 w9 hO9 hG9 hV9)
                  have HO9 : Hid (OwnG w9 wo.heap.size v9 (r ++ [0])) := ⟨by unfold OwnG; rw [List.map_append]; exact hO9⟩
                  have HB9 : Hid (Below wo.heap.size wo w9) := ⟨HBr.out.trans (hG9.below HBr.out.size (fun x hx => (HOr.out.lt x hx).1))⟩
                  have hob9 : v9.ownBlock ≠ none := by
                    rcases hV9 with h | h
                    · rw [h]; exact hob
                    · rw [h]; simp
                  obtain ⟨a9, c9, e9, _⟩ := HO9.out.rd.shape
                  subst e9
                  clear hO9 hG9 hV9
                  go_roundg (N - (rl + 1))
                  case measure => omega
                  case rel => exact ⟨r ++ [0], a9, c9, rfl, hob9, by simp; have := Hrl.out; omega, by simp; have := Hrl.out; omega, HO9, HB9⟩
                · have hrNe : r.length = N := by omega
                  have hrlz : ¬ (r.length : Int) < (N : Int) := by omega
                  have HSr : Hid (RdS wr (0, 5) (.slice ra r.length rc) (some r)) := ⟨HOr.out.sd rfl (by cases ra with
                    | none => exact absurd rfl hob
                    | some x => exact ⟨_, _, _, rfl⟩)⟩
                  have HOd : Hid (OwnR wr (0, 5) w.heap.size u7 D) := ⟨HO.out.below HBr.out⟩
                  have HB9 : Hid (Below w.heap.size w wr) := ⟨HB.out.trans (HBr.out.mono HB.out.size)⟩
                  have hbs := HB9.out.size
                  have hlR : D.length ≤ 1000000000000 := by omega
                  rw [hrNe] at HSr HOr hrlz ⊢
                  go_wp2_with (refine wp_appR1 rfl (.tmp 62) (.tmp 64) rfl rfl HOd.out (Nat.zero_le _) (show (5 : TypeId) ≠ 33 by decide) HSr.out rfl hlR hbs ?_; intro v8 w8 hO8 hG8 hV8)
                  have HO8 := Hid.mk hO8
                  have HB8 : Hid (Below w.heap.size w w8) := ⟨HB9.out.trans (hG8.below HB9.out.size (fun x hx => (HOd.out.lt x hx).1))⟩
                  clear hO8 hG8 hV8
                  go_roundg (8 - (i + 1))
                  case measure => omega
                  case rel =>
                    refine ⟨i + 1, D ++ [some r], by omega, by omega, by omega, by go_num, by simp [hDl], ⟨fun j hj => ?_⟩, HO8, HB8⟩
                    by_cases e : j < D.length
                    · have e2 : (D ++ [some r]).getD j none = D.getD j none := by simp only [List.getD]; rw [List.getElem?_append_left e]
                      rw [e2]
                      exact HD.out j (by omega)
                    · have e3 : j = D.length := by omega
                      subst e3
                      simp [List.getD, sl, hrNe]
          · have hix : D.length ≤ 8 ∧ D.length ≤ 32 := by omega
            have hex : ¬ ((i : Int) < (n : Int)) ∨ ((i : Int) < (n : Int) ∧ ¬ ((i : Int) < 8)) := by omega
            have h4 : ∀ j, j < D.length → (sl (D.getD j none)).length ≤ 4096 := fun j hj => by rw [(HD.out j (by omega)).1]; omega
            have hsz := HB.out.size
            subst hDl
            clear hlt hgg hi8 hin HNk
            by_cases h0 : D.length = 0
            · have e0 : D = [] := List.length_eq_zero_iff.1 h0
              subst e0
              have t := enc_no (w := wo) u7 [] (m : Int) HO.out.rd (by simp) (fun i hi => by simp at hi) (by unfold encE; rw [if_pos (.inl (by simp))]; decide)
              have hE2 : encE [] (m : Int) = 2 := by unfold encE; rw [if_pos (.inl (by simp))]
              rw [hE2] at t
              have hx : ¬ ((0 : Int) < (n : Int)) := by
                rcases hex with h | ⟨_, h⟩
                · simpa using h
                · exact absurd (show ((([] : List Sd).length : Nat) : Int) < 8 by decide) h
              clear h4 hE2 hex h0
              rw [List.length_nil]
              go_wp2_with fail
              refine t.mono ?_
              rintro e w3 ⟨rfl, hb3⟩
              have HB3 : Hid (Below w.heap.size w w3) := ⟨HB.out.trans (hb3.mono HB.out.size)⟩
              obtain ⟨da, dc, ed, _⟩ := HO.out.rd.shape
              rw [List.length_nil] at ed
              subst ed
              clear t hb3
              cases da
              all_goals
                go_wp2_with fail
                go_ret3
                exact ⟨_, _, _, [], false, rfl, .inl ⟨rfl, rfl⟩, HB3.out⟩
            · have hEv : Even D N := ⟨by omega, by omega, fun j hj => (HD.out j hj).1, fun j hj => (HD.out j hj).2⟩
              have hfr : frm D = false := by
                cases hf : frm D with
                | false => rfl
                | true =>
                  have hl := left_all (K := D) (fun j hj => (HD.out j hj).2)
                  rw [← hl] at hf
                  obtain ⟨i', k', hk', hi', _, _, hne⟩ := (wr_frm D).2 hf
                  rw [(HD.out i' hi').1, (HD.out k' (by omega)).1] at hne
                  exact absurd rfl hne
              have t := enc_ok (w := wo) u7 D m HO.out.rd (by omega) hm h4 hfr
              have HEv := Hid.mk hEv
              have hlR : D.length + ((List.range m).map (encS D)).length ≤ 1000000000000 := by rw [List.length_map, List.length_range]; omega
              clear h4 hEv hfr
              rcases hex with hex | ⟨hex, hex8⟩
              all_goals
                go_wp2_with fail
                refine t.mono ?_
                rintro e w3 ⟨pa, pn, pc, rfl, hp3, hb3⟩
                have HB3 : Hid (Below w.heap.size w w3) := ⟨HB.out.trans (hb3.mono HB.out.size)⟩
                have HO3 : Hid (OwnR w3 (0, 5) w.heap.size u7 D) := ⟨HO.out.below hb3⟩
                have HP3 := Hid.mk hp3.rd
                have hs3 := HB3.out.size
                obtain ⟨da, dc, ed, _⟩ := HO.out.rd.shape
                subst ed
                clear t hb3 hp3
                go_wp2_with (refine wp_appR rfl (.tmp 72) (.tmp 73) rfl rfl HO3.out (Nat.zero_le _) (show (5 : TypeId) ≠ 33 by decide) rfl HP3.out hlR hs3 ?_; intro v8 w8 hO8 hG8 hV8)
                have HB8 : Hid (Below w.heap.size w w8) := ⟨HB3.out.trans (hG8.below HB3.out.size (fun x hx => (HO3.out.lt x hx).1))⟩
                have HO8 := Hid.mk hO8
                obtain ⟨a8, c8, e8, _⟩ := hO8.rd.shape
                subst e8
                go_ret3
                exact ⟨_, _, _, D, true, rfl, .inr ⟨N, HEv.out, hN, hix.1, rfl, HO8.out⟩, HB8.out⟩
end
end Go.Proofs.Ytbdmbhpmbklaiaa
