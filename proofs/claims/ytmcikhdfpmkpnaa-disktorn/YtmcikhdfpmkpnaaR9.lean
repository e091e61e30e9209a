/- The document's Crash. -/
import Derived.Test.YtmcikhdfpmkpnaaR8
import Derived.Deep.CutRange
namespace Go.Proofs.Ytmcikhdfpmkpnaa
open Go.RowKit Go.Maps Go.Sort Go.Shelf

theorem crash_take (c : Cr) (S : List Sec) {k : Nat} (hk : k < S.length) : (crash c S).take (k + 1) = (crash c S).take k ++ [crash1 c (place S k) (sec S k)] := by
  rw [List.take_add_one]
  congr 1
  simp [crash, hk]
theorem place_le (S : List Sec) (k : Nat) : place S k ≤ k := by
  have := List.length_filter_le (dirt S) (List.range k)
  simpa [place] using this

set_option maxHeartbeats 2000000 in
set_option maxRecDepth 100000 in
theorem rcrash_any {w : World} {q base : Nat} {d : Dk} (h : Rf w q base d) (hbs : base ≤ w.heap.size) (kv : Value) (ks : List Bool) (torn at' : Int) (hk : Ks w kv ks) :
    Calls Try.prog 45 #[.pointer (some ⟨q, 0, none⟩), .agg #[kv, .int .i64 torn, .int .i64 at']] w fun e w' => e = .returned (.tuple #[]) ∧ Rf w' q base (crD d ⟨ks, torn, at'⟩) ∧ Chg [q] w w' := by
  obtain ⟨c, Hc⟩ : ∃ c : Cr, Hid (c = ⟨ks, torn, at'⟩) := ⟨_, ⟨rfl⟩⟩
  rw [← Hc.out]
  obtain ⟨v1, ar1, hX⟩ := h
  have HX : Hid (RfX w q base v1 ar1 d) := ⟨hX⟩
  obtain ⟨ao, cap, rfl, hcell⟩ := hX.own.shape
  have hlen := hX.len
  have hcc := hX.cells.1
  have hql := hX.lt
  obtain ⟨N, HN⟩ : ∃ N, Hid (d.S.length = N) := ⟨_, ⟨rfl⟩⟩
  have HC : Hid (∀ j, j < N → ∃ g, ao = some ⟨g, 0, none⟩ ∧ w.cell? ⟨g, j * 3, none⟩ = some (.string (strOfNums (sec d.S j).1)) ∧ w.cell? ⟨g, j * 3 + 1, none⟩ = some (.string (strOfNums ((sec d.S j).2.getD []))) ∧ w.cell? ⟨g, j * 3 + 2, none⟩ = some (.bool (sec d.S j).2.isSome)) := ⟨fun j hj => hcell j (by rw [HN.out]; exact hj)⟩
  rw [HN.out] at hlen hcc
  obtain ⟨w0, Hw0⟩ : ∃ w0, Hid (w0 = w.alloc (.cells #[kv, .int .i64 torn, .int .i64 at'] 40)) := ⟨_, ⟨rfl⟩⟩
  have HW : Hid (Below w.heap.size w w0 ∧ w0.heap[w.heap.size]? = some (.cells #[kv, .int .i64 torn, .int .i64 at'] 40 (0, 0)) ∧ w0.heap.size = w.heap.size + 1 ∧ Ks w0 kv ks) := ⟨by
    have hb : Below w.heap.size w w0 := by rw [Hw0.out]; exact (Below.refl _ w).alloc (Nat.le_refl _) _
    exact ⟨hb, by rw [Hw0.out]; exact heap_alloc_new w _, by rw [Hw0.out]; simp, hk.below hb⟩⟩
  have HO0 : Hid (OwnP (w0.alloc (.cells #[] 54)) w0.heap.size (.slice (some ⟨w0.heap.size, 0, none⟩) 0 0) ((crash c d.S).take 0)) := ⟨by rw [List.take_zero]; exact ownp_none w0⟩
  have HB0 : Hid (Below w0.heap.size w0 (w0.alloc (.cells #[] 54))) := ⟨(Below.refl _ w0).alloc (Nat.le_refl _) _⟩
  rw [HW.out.2.2.1] at HO0
  clear hX hcell hk
  go_enter Try.func45, Try.ntmps45
  go_wp2_with fail
  rw [← Hw0.out]
  go_loopg [4, 5, 6, 7, 8] N (fun gg s4 s5 s6 _ _ wr => ∃ kk : Nat, kk ≤ N ∧ N - kk ≤ gg ∧ s6 = .int .i64 (kk : Int) ∧ s5 = .int .i64 ((place d.S kk : Nat) : Int) ∧ Hid (Below w0.heap.size w0 wr) ∧ Hid (OwnP wr (w.heap.size + 1) s4 ((crash c d.S).take kk)))
  case atStart => exact ⟨0, Nat.zero_le _, by omega, rfl, rfl, HB0, HO0⟩
  case round =>
    clear HO0 HB0
    obtain ⟨kk, hkk, hgg, rfl, rfl, HB, HO⟩ := hrel
    have HBw : Hid (Below w.heap.size w wr) := ⟨HW.out.1.trans (HB.out.mono HW.out.1.size)⟩
    have d0 : wr.cell? ⟨q, 0, none⟩ = some (.slice ao N cap) := (HBw.out.cell (p := ⟨q, 0, none⟩) hql).trans hcc
    have hfr : wr.heap[w.heap.size]? = some (.cells #[kv, .int .i64 torn, .int .i64 at'] 40 (0, 0)) := (HB.out.block _ (by rw [HW.out.2.2.1]; omega)).trans HW.out.2.1
    have b0 : wr.cell? ⟨w.heap.size, 0, none⟩ = some kv := by rw [cell_of_row _ _ _ _ _ _ hfr]; rfl
    have b1 : wr.cell? ⟨w.heap.size, 1, none⟩ = some (.int .i64 torn) := by rw [cell_of_row _ _ _ _ _ _ hfr]; rfl
    have b2 : wr.cell? ⟨w.heap.size, 2, none⟩ = some (.int .i64 at') := by rw [cell_of_row _ _ _ _ _ _ hfr]; rfl
    by_cases hlt : kk < N
    · have hltz : (kk : Int) < (N : Int) := by omega
      have hkS : kk < d.S.length := by rw [HN.out]; exact hlt
      obtain ⟨g, rfl, k0, k1, k2⟩ := HC.out kk hlt
      have j0 := (HBw.out.cell (World.block_lt_of_cell? _ _ k0)).trans k0
      have j1 := (HBw.out.cell (World.block_lt_of_cell? _ _ k1)).trans k1
      have j2 := (HBw.out.cell (World.block_lt_of_cell? _ _ k2)).trans k2
      have HT : Hid ((crash c d.S).take (kk + 1) = (crash c d.S).take kk ++ [crash1 c (place d.S kk) (sec d.S kk)]) := ⟨crash_take c _ hkS⟩
      have HPl : Hid (place d.S (kk + 1) = place d.S kk + (if dirt d.S kk then 1 else 0)) := ⟨place_succ _ _⟩
      have hlt1 : ((crash c d.S).take kk).length ≤ 5000 := by rw [List.length_take, crash_length]; omega
      have hsz : w.heap.size + 1 ≤ wr.heap.size := by have := HB.out.size; rw [HW.out.2.2.1] at this; exact this
      have hpk := place_le d.S kk
      have hPg := ok_sec HX.out.ok kk
      clear k0 k1 k2
      cases hs : (sec d.S kk).2 with
      | none =>
        have hcr : crash1 c (place d.S kk) (sec d.S kk) = ((sec d.S kk).1, none) := by
          have e : sec d.S kk = ((sec d.S kk).1, none) := by rw [← hs]
          rw [crash1_clean (by rw [hs]; rfl)]; exact e
        have hdt : dirt d.S kk = false := by unfold dirt; rw [hs]; rfl
        rw [hcr] at HT
        rw [hdt] at HPl
        rw [hs] at j1 j2
        have HO1 : Hid (OwnP (wr.alloc (.cells #[.string (strOfNums (sec d.S kk).1), .string (strOfNums []), .bool false] 54)) (w.heap.size + 1) u4 ((crash c d.S).take kk)) := ⟨World.ownsRow.alloc HO.out _⟩
        have HB1 : Hid (Below w0.heap.size w0 (wr.alloc (.cells #[.string (strOfNums (sec d.S kk).1), .string (strOfNums []), .bool false] 54))) := ⟨HB.out.alloc HB.out.size _⟩
        have hsz1 : w.heap.size + 1 ≤ (wr.alloc (.cells #[.string (strOfNums (sec d.S kk).1), .string (strOfNums []), .bool false] 54)).heap.size := by simp; omega
        simp only [Option.getD_none, Option.isSome_none] at j1 j2
        generalize hpk2 : place d.S kk = pk at *
        go_wp2_with (at_builtin; refine wp_app1Q ((sec d.S kk).1, none) rfl (.tmp 73) (.tmp 75) rfl rfl rfl rfl (size_alloc _ _) rfl HO1.out rfl hlt1 hsz1 ?_; intro v' w2 hv' hb')
        go_roundg (N - (kk + 1))
        case measure => omega
        case rel => exact ⟨kk + 1, by omega, by omega, by go_num, by rw [HPl.out]; rfl, ⟨HB1.out.trans (by rw [HW.out.2.2.1]; exact hb')⟩, ⟨by rw [HT.out]; exact hv'⟩⟩
      | some l =>
        have hPl := hPg.2 l hs
        have hPx := hPg.1
        have hcr : crash1 c (place d.S kk) (sec d.S kk) = (outl c (place d.S kk) (sec d.S kk).1 l, none) := by unfold crash1; rw [hs]
        have hdt : dirt d.S kk = true := by unfold dirt; rw [hs]; rfl
        rw [hcr] at HT
        rw [hdt] at HPl
        rw [hs] at j1 j2
        simp only [Option.getD_some, Option.isSome_some] at j1 j2
        generalize hpk2 : place d.S kk = pk at *
        generalize (sec d.S kk).1 = x at *
        clear hPg hcr hdt
        obtain ⟨wP, HwP⟩ : ∃ wP, Hid (wP = wr.alloc (.cells #[.string (strOfNums x), .string (strOfNums l), .bool true] 54)) := ⟨_, ⟨rfl⟩⟩
        have HbP : Hid (Below wr.heap.size wr wP) := ⟨by rw [HwP.out]; exact (Below.refl _ wr).alloc (Nat.le_refl _) _⟩
        have hPr : wP.heap[wr.heap.size]? = some (.cells #[.string (strOfNums x), .string (strOfNums l), .bool true] 54 (0, 0)) := by rw [HwP.out]; exact heap_alloc_new wr _
        have q0 : wP.cell? ⟨wr.heap.size, 0, none⟩ = some (.string (strOfNums x)) := by rw [cell_of_row _ _ _ _ _ _ hPr]; rfl
        have q1 : wP.cell? ⟨wr.heap.size, 1, none⟩ = some (.string (strOfNums l)) := by rw [cell_of_row _ _ _ _ _ _ hPr]; rfl
        have q2 : wP.cell? ⟨wr.heap.size, 2, none⟩ = some (.bool true) := by rw [cell_of_row _ _ _ _ _ _ hPr]; rfl
        have p0 : wP.cell? ⟨w.heap.size, 0, none⟩ = some kv := (HbP.out.cell (World.block_lt_of_cell? _ _ b0)).trans b0
        have p1 : wP.cell? ⟨w.heap.size, 1, none⟩ = some (.int .i64 torn) := (HbP.out.cell (World.block_lt_of_cell? _ _ b1)).trans b1
        have p2 : wP.cell? ⟨w.heap.size, 2, none⟩ = some (.int .i64 at') := (HbP.out.cell (World.block_lt_of_cell? _ _ b2)).trans b2
        have hkP : Ks wP kv ks := (HW.out.2.2.2.below HB.out).below HbP.out
        obtain ⟨ak, ck, rfl, hkc⟩ := hkP
        obtain ⟨kp, Hkp⟩ : ∃ kp : Bool, Hid (kp = decide (pk < ks.length ∧ ks.getD pk false = true)) := ⟨_, ⟨rfl⟩⟩
        obtain ⟨tn, Htn⟩ : ∃ tn : Bool, Hid (tn = decide ((pk : Int) = torn ∧ 0 ≤ at' ∧ at' ≤ 128)) := ⟨_, ⟨rfl⟩⟩
        obtain ⟨y, Hy⟩ : ∃ y, Hid (y = if kp then l else x) := ⟨_, ⟨rfl⟩⟩
        have HKC : Hid (∀ j, j < ks.length → ∃ b o, ak = some ⟨b, o, none⟩ ∧ wP.cell? ⟨b, o + j, none⟩ = some (.bool (ks.getD j false))) := ⟨hkc⟩
        clear hkc
        go_upto_region 9 with fail
        rw [← HwP.out]
        go_cut [41] from 10 to 76 (fun s41 wc => s41 = .bool kp ∧ wc = wP)
        case first =>
          by_cases hkl : pk < ks.length
          · obtain ⟨zb, zo, rfl, hz⟩ := HKC.out pk hkl
            have hkz : (pk : Int) < (ks.length : Int) := by omega
            cases hkt : ks.getD pk false with
            | true =>
              rw [hkt] at hz
              go_wp2_with fail
              go_meet
              exact ⟨by rw [Hkp.out, decide_eq_true ⟨hkl, hkt⟩], rfl⟩
            | false =>
              rw [hkt] at hz
              go_wp2_with fail
              go_meet
              exact ⟨by rw [Hkp.out, decide_eq_false (fun q => by rw [hkt] at q; exact absurd q.2 (by simp))], rfl⟩
          · have hkz : ¬ (pk : Int) < (ks.length : Int) := by omega
            go_wp2_with fail
            go_meet
            exact ⟨by rw [Hkp.out, decide_eq_false (fun q => hkl q.1)], rfl⟩
        case rest =>
          obtain ⟨rfl, rfl⟩ := hcut
          go_upto_if 41 with fail
          go_cut [8] from 10 to 76 (fun s8 wd => s8 = .string (strOfNums y) ∧ wd = wc)
          case first =>
            cases hkv : kp with
            | true =>
              go_wp2_with fail
              go_meet
              exact ⟨by rw [Hy.out, hkv]; rfl, rfl⟩
            | false =>
              go_wp2_with fail
              go_meet
              exact ⟨by rw [Hy.out, hkv]; rfl, rfl⟩
          case rest =>
            obtain ⟨rfl, rfl⟩ := hcut
            go_upto_region 11 with fail
            go_cut [57] from 10 to 76 (fun s57 we => s57 = .bool tn ∧ we = wc)
            case first =>
              by_cases ht : (pk : Int) = torn
              · by_cases h0 : 0 ≤ at'
                · by_cases h1 : at' ≤ 128
                  · have hT : Hid (tn = true) := ⟨by rw [Htn.out, decide_eq_true ⟨ht, h0, h1⟩]⟩
                    subst ht
                    go_wp2_with fail
                    go_meet
                    exact ⟨by rw [hT.out], rfl⟩
                  · have hT : Hid (tn = false) := ⟨by rw [Htn.out, decide_eq_false (fun q => h1 q.2.2)]⟩
                    subst ht
                    go_wp2_with fail
                    go_meet
                    exact ⟨by rw [hT.out], rfl⟩
                · have hT : Hid (tn = false) := ⟨by rw [Htn.out, decide_eq_false (fun q => h0 q.2.1)]⟩
                  subst ht
                  go_wp2_with fail
                  go_meet
                  exact ⟨by rw [hT.out], rfl⟩
              · have hT : Hid (tn = false) := ⟨by rw [Htn.out, decide_eq_false (fun q => ht q.1)]⟩
                go_wp2_with fail
                go_meet
                exact ⟨by rw [hT.out], rfl⟩
            case rest =>
              obtain ⟨rfl, rfl⟩ := hcut
              have HOu : Hid (outl c pk x l = if tn then l.take at'.toNat ++ x.drop at'.toNat else y) := ⟨by
                unfold outl
                rw [Hc.out, Hy.out, Htn.out, Hkp.out]
                simp only [decide_eq_true_eq]⟩
              go_upto_if 57 with fail
              go_cut [8] from 10 to 76 (fun s8 we => s8 = .string (strOfNums (outl c pk x l)) ∧ Hid (we.heap = wc.heap ∧ Below wc.heap.size wc we))
              case first =>
                cases htv : tn with
                | true =>
                  have hat := Htn.out
                  rw [htv] at hat
                  have hat2 := of_decide_eq_true hat.symm
                  have ha0 := hat2.2.1
                  have ha1 := hat2.2.2
                  clear hat hat2
                  obtain ⟨A, rfl⟩ : ∃ A : Nat, at' = A := ⟨at'.toNat, by omega⟩
                  have HOv : Hid (outl c pk x l = l.take A ++ x.drop A) := ⟨by rw [HOu.out, htv]; rfl⟩
                  have hsl : (A : Int) ≤ ((strOfNums l).size : Int) := by rw [strOfNums_size, hPl.1]; omega
                  have hsx : (A : Int) ≤ ((strOfNums x).size : Int) := by rw [strOfNums_size, hPx.1]; omega
                  have e4 : (strOfNums l).extract 0 A = strOfNums (l.take A) := str_take l A
                  have e9 : (strOfNums x).extract A (strOfNums x).size = strOfNums (x.drop A) := by rw [strOfNums_size]; exact str_drop x A
                  have e10 : strOfNums (l.take A) ++ strOfNums (x.drop A) = strOfNums (outl c pk x l) := by rw [str_append, HOv.out]
                  have e11 : ¬ 9223372036854775807 < (strOfNums (l.take A)).size + (strOfNums (x.drop A)).size := by rw [strOfNums_size, strOfNums_size]; have := hPl.1; have := hPx.1; simp; omega
                  generalize hso : strOfNums (outl c pk x l) = so at e10
                  have Hso : Hid (strOfNums (outl c pk x l) = so) := ⟨hso⟩
                  clear hso
                  generalize strOfNums (l.take A) = s4 at e4 e10 e11
                  generalize strOfNums (x.drop A) = s9 at e9 e10 e11
                  generalize strOfNums l = sl at q1 hsl e4
                  generalize strOfNums x = sx at q0 hsx e9
                  have hS0 : wc.drew.cell? ⟨wr.heap.size, 0, none⟩ = some (.string sx) ∧ wc.drew.cell? ⟨wr.heap.size, 1, none⟩ = some (.string sl) ∧ wc.drew.cell? ⟨w.heap.size, 2, none⟩ = some (.int .i64 (A : Int)) := ⟨q0, q1, p2⟩
                  clear HT HOu HOv
                  go_wp2_with fail
                  refine wp_region_held_drew (S := fun w' => w'.cell? ⟨wr.heap.size, 0, none⟩ = some (.string sx) ∧ w'.cell? ⟨wr.heap.size, 1, none⟩ = some (.string sl) ∧ w'.cell? ⟨w.heap.size, 2, none⟩ = some (.int .i64 (A : Int))) (by kernel_rfl) hS0 (fun hS => ?_)
                  refine wpAnyH_take (i := 0) (v := .pointer (some ⟨wr.heap.size, 1, none⟩)) rfl (by kernel_rfl) (by kernel_rfl) (by kernel_rfl) (fun _ _ _ h => h) (Or.inl ⟨by kernel_rfl, fun wx _ => by go_simp⟩) hS ?_
                  refine wpAnyH_take (i := 1) (v := .string sl) rfl (by kernel_rfl) (by kernel_rfl) (by kernel_rfl) (fun _ _ _ h => h) (Or.inl ⟨by kernel_rfl, fun wx hx => by obtain ⟨hx0, hx1, hx2⟩ := hx; go_simp⟩) hS ?_
                  refine wpAnyH_take (i := 2) (v := .pointer (some ⟨w.heap.size, 2, none⟩)) rfl (by kernel_rfl) (by kernel_rfl) (by kernel_rfl) (fun _ _ _ h => h) (Or.inl ⟨by kernel_rfl, fun wx _ => by go_simp⟩) hS ?_
                  refine wpAnyH_take (i := 3) (v := .int .i64 (A : Int)) rfl (by kernel_rfl) (by kernel_rfl) (by kernel_rfl) (fun _ _ _ h => h) (Or.inl ⟨by kernel_rfl, fun wx hx => by obtain ⟨hx0, hx1, hx2⟩ := hx; go_simp⟩) hS ?_
                  refine wpAnyH_take (i := 4) (v := .string s4) rfl (by kernel_rfl) (by kernel_rfl) (by kernel_rfl) (fun _ _ _ h => h) (Or.inl ⟨by kernel_rfl, fun wx _ => by go_simp⟩) hS ?_
                  refine wpAnyH_take (i := 5) (v := .pointer (some ⟨wr.heap.size, 0, none⟩)) rfl (by kernel_rfl) (by kernel_rfl) (by kernel_rfl) (fun _ _ _ h => h) (Or.inl ⟨by kernel_rfl, fun wx _ => by go_simp⟩) hS ?_
                  refine wpAnyH_take (i := 6) (v := .string sx) rfl (by kernel_rfl) (by kernel_rfl) (by kernel_rfl) (fun _ _ _ h => h) (Or.inl ⟨by kernel_rfl, fun wx hx => by obtain ⟨hx0, hx1, hx2⟩ := hx; go_simp⟩) hS ?_
                  refine wpAnyH_take (i := 7) (v := .pointer (some ⟨w.heap.size, 2, none⟩)) rfl (by kernel_rfl) (by kernel_rfl) (by kernel_rfl) (fun _ _ _ h => h) (Or.inl ⟨by kernel_rfl, fun wx _ => by go_simp⟩) hS ?_
                  refine wpAnyH_take (i := 8) (v := .int .i64 (A : Int)) rfl (by kernel_rfl) (by kernel_rfl) (by kernel_rfl) (fun _ _ _ h => h) (Or.inl ⟨by kernel_rfl, fun wx hx => by obtain ⟨hx0, hx1, hx2⟩ := hx; go_simp⟩) hS ?_
                  refine wpAnyH_take (i := 9) (v := .string s9) rfl (by kernel_rfl) (by kernel_rfl) (by kernel_rfl) (fun _ _ _ h => h) (Or.inl ⟨by kernel_rfl, fun wx _ => by go_simp⟩) hS ?_
                  refine wpAnyH_take (i := 10) (v := .string so) rfl (by kernel_rfl) (by kernel_rfl) (by kernel_rfl) (fun _ _ _ h => h) (Or.inl ⟨by kernel_rfl, fun wx _ => by go_simp⟩) hS ?_
                  refine wpAnyH_take (i := 11) (v := .string so) rfl (by kernel_rfl) (by kernel_rfl) (by kernel_rfl) (fun _ _ _ h => h) (Or.inl ⟨by kernel_rfl, fun _ _ => by kernel_rfl⟩) hS ?_
                  refine wpAnyH_done (by kernel_rfl) ?_ _
                  clear hS hS0
                  go_simp
                  go_wp2_with fail
                  go_meet
                  exact ⟨by rw [Hso.out], ⟨rfl, (Below.refl _ wc).drew⟩⟩
                | false =>
                  go_wp2_with fail
                  go_meet
                  exact ⟨by rw [HOu.out, htv]; rfl, ⟨rfl, Below.refl _ _⟩⟩
              case rest =>
                obtain ⟨rfl, HE⟩ := hcut
                rename World => we
                obtain ⟨o, Ho⟩ : ∃ o, Hid (o = outl c pk x l) := ⟨_, ⟨rfl⟩⟩
                rw [← Ho.out] at HT ⊢
                have hPr2 : we.heap[wr.heap.size]? = some (.cells #[.string (strOfNums x), .string (strOfNums l), .bool true] 54 (0, 0)) := by rw [HE.out.1]; exact hPr
                have r0 : we.cell? ⟨wr.heap.size, 0, none⟩ = some (.string (strOfNums x)) := by rw [cell_of_row _ _ _ _ _ _ hPr2]; rfl
                have r1 : we.cell? ⟨wr.heap.size, 1, none⟩ = some (.string (strOfNums l)) := by rw [cell_of_row _ _ _ _ _ _ hPr2]; rfl
                have r2 : we.cell? ⟨wr.heap.size, 2, none⟩ = some (.bool true) := by rw [cell_of_row _ _ _ _ _ _ hPr2]; rfl
                have f0 : we.frozen? ⟨wr.heap.size, 0, none⟩ = false := frozen_of_row _ _ _ _ 54 hPr2
                have f1 : we.frozen? ⟨wr.heap.size, 1, none⟩ = false := frozen_of_row _ _ _ _ 54 hPr2
                have f2 : we.frozen? ⟨wr.heap.size, 2, none⟩ = false := frozen_of_row _ _ _ _ 54 hPr2
                have hbe : Below w0.heap.size w0 we := (HB.out.trans (HbP.out.mono HB.out.size)).trans (HE.out.2.mono (Nat.le_trans HB.out.size HbP.out.size))
                have hb3 : Below w0.heap.size w0 (((we.setCell ⟨wr.heap.size, 0, none⟩ (.string (strOfNums o))).setCell ⟨wr.heap.size, 1, none⟩ (.string ⟨#[]⟩)).setCell ⟨wr.heap.size, 2, none⟩ (.bool false)) := ((hbe.setCell HB.out.size _).setCell HB.out.size _).setCell HB.out.size _
                have HB3 : Hid (Below w0.heap.size w0 (((we.setCell ⟨wr.heap.size, 0, none⟩ (.string (strOfNums o))).setCell ⟨wr.heap.size, 1, none⟩ (.string ⟨#[]⟩)).setCell ⟨wr.heap.size, 2, none⟩ (.bool false))) := ⟨hb3⟩
                have hu4 : ∀ z, u4.ownBlock = some z → z ≠ wr.heap.size ∧ z < wr.heap.size := fun z hz => by have := (HO.out.lt z hz).2; omega
                have HO3 : Hid (OwnP (((we.setCell ⟨wr.heap.size, 0, none⟩ (.string (strOfNums o))).setCell ⟨wr.heap.size, 1, none⟩ (.string ⟨#[]⟩)).setCell ⟨wr.heap.size, 2, none⟩ (.bool false)) (w.heap.size + 1) u4 ((crash c d.S).take kk)) := ⟨by
                  have o1 : OwnP we (w.heap.size + 1) u4 ((crash c d.S).take kk) := owns_kept HO.out (fun z hz => by rw [HE.out.1]; exact HbP.out.block z (hu4 z hz).2)
                  exact owns_kept (owns_kept (owns_kept o1 (fun z hz => heap_setCell_other _ _ _ _ (hu4 z hz).1)) (fun z hz => heap_setCell_other _ _ _ _ (hu4 z hz).1)) (fun z hz => heap_setCell_other _ _ _ _ (hu4 z hz).1)⟩
                have hsz3 : (((we.setCell ⟨wr.heap.size, 0, none⟩ (.string (strOfNums o))).setCell ⟨wr.heap.size, 1, none⟩ (.string ⟨#[]⟩)).setCell ⟨wr.heap.size, 2, none⟩ (.bool false)).heap.size = we.heap.size := by simp
                have hsz4 : w.heap.size + 1 ≤ (((we.setCell ⟨wr.heap.size, 0, none⟩ (.string (strOfNums o))).setCell ⟨wr.heap.size, 1, none⟩ (.string ⟨#[]⟩)).setCell ⟨wr.heap.size, 2, none⟩ (.bool false)).heap.size := by have := hb3.size; rw [HW.out.2.2.1] at this; exact this
                have HS3 : Hid ((((we.setCell ⟨wr.heap.size, 0, none⟩ (.string (strOfNums o))).setCell ⟨wr.heap.size, 1, none⟩ (.string ⟨#[]⟩)).setCell ⟨wr.heap.size, 2, none⟩ (.bool false)).heap.size = we.heap.size) := ⟨hsz3⟩
                clear hb3 hsz3 hbe hu4 q0 q1 q2 p0 p1 p2 hPr
                go_wp2_with (at_builtin; refine wp_app1Q (o, none) rfl (.tmp 73) (.tmp 75) rfl rfl rfl rfl HS3.out rfl HO3.out rfl hlt1 hsz4 ?_; intro v' w2 hv' hb')
                go_roundg (N - (kk + 1))
                case measure => omega
                case rel => exact ⟨kk + 1, by omega, by omega, by go_num, by rw [HPl.out]; simp, ⟨HB3.out.trans (by rw [HW.out.2.2.1]; exact hb')⟩, ⟨by rw [HT.out]; exact hv'⟩⟩
    · obtain rfl : kk = N := by omega
      have hfin : (crash c d.S).take kk = crash c d.S := List.take_of_length_le (by rw [crash_length, HN.out]; exact Nat.le_refl _)
      have hO := HO.out
      rw [hfin] at hO
      obtain ⟨ao3, cp3, rfl, _⟩ := hO.shape
      have hX1 := HX.out.below HBw.out
      obtain ⟨_, e1, e2, e3⟩ := hX1.cells
      have f0 := hX1.frozen 0
      have f1 := hX1.frozen 1
      have f2 := hX1.frozen 2
      have f3 := hX1.frozen 3
      have HR : Hid (Rf ((((wr.setCell ⟨q, 0, none⟩ (.slice ao3 (crash c d.S).length cp3)).setCell ⟨q, 1, none⟩ (.int .i64 0)).setCell ⟨q, 2, none⟩ (.bool false)).setCell ⟨q, 3, none⟩ (.int .i64 (wrap64 (d.life + 1)))) q base (crD d c) ∧ Chg [q] w ((((wr.setCell ⟨q, 0, none⟩ (.slice ao3 (crash c d.S).length cp3)).setCell ⟨q, 1, none⟩ (.int .i64 0)).setCell ⟨q, 2, none⟩ (.bool false)).setCell ⟨q, 3, none⟩ (.int .i64 (wrap64 (d.life + 1))))) := ⟨by
        refine ⟨((((hX1.setS (hO.mono (by omega)) (fun g hg => ?_) (ok_crash HX.out.ok) (by rw [crash_length, HN.out]; exact hlen)).setTrip 0 0 (fun _ => rfl) (by omega)).setDown false 0 (fun _ => rfl)).setLife (wrap64 (d.life + 1))).rf, (((((Chg.ofBelow HBw.out).setCell (.inl (by simp)) _).setCell (.inl (by simp)) _).setCell (.inl (by simp)) _).setCell (.inl (by simp)) _)⟩
        have := (hO.lt g hg).1
        omega⟩
      generalize (crash c d.S).length = fln at HR
      clear hO HO hX1
      go_wp2
      go_returns
      exact ⟨rfl, HR.out⟩
end Go.Proofs.Ytmcikhdfpmkpnaa
