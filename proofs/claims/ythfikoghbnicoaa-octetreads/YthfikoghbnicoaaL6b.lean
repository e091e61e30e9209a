/- The walk of OctetReads. -/
import Derived.Test.YthfikoghbnicoaaL6a
import Derived.Deep.RegionHeld3
import Derived.Deep.DrawnRows
namespace Go.Proofs.Ythfikoghbnicoaa
open Go.RowKit
attribute [local go_sem ↓] Go.wp_at_zero Go.wp_at_succ

/-- The value is a slice of steps. -/
def Sps (w : World) (v : Value) (ls : List (Int × Int)) : Prop :=
  ∃ a cap, v = .slice a ls.length cap ∧ ls.length ≤ maxLen ∧ ∀ k, k < ls.length → ∃ b off, a = some ⟨b, off, none⟩ ∧ w.cell? ⟨b, off + k * 2, none⟩ = some (.int .i64 (ls.getD k (0, 0)).1) ∧ w.cell? ⟨b, off + k * 2 + 1, none⟩ = some (.int .i64 (ls.getD k (0, 0)).2)

set_option maxHeartbeats 8000000 in
set_option maxRecDepth 1000000 in
theorem walk_octetReads (v : Value) (bs : List Int) (u : Value) (ls : List (Int × Int)) (w : World) (hb : Bs w v bs) (byb : ∀ x ∈ bs, 0 ≤ x ∧ x < 256) (lb : bs.length ≤ 140737488351232) (hs : Sps w u ls) :
    Calls Try.prog 8 #[v, u] w fun e w' => e = .returned (.bool true) ∧ Below w.heap.size w w' := by
  obtain ⟨al, capl, rfl, hll, hlc⟩ := hs
  have ho : OwnB (w.alloc (.cells #[] 5)) w.heap.size 5 (.slice (some ⟨w.heap.size, 0, none⟩) 0 0) [] := own_lit w 5 w.heap.size [] #[] rfl (Nat.le_refl _) (Nat.zero_le _)
  go_enter Try.func8, Try.ntmps8
  go_wp2_with (at_builtin; refine wp_appS (ys := bs) (xs := []) Try.bt rfl (.tmp 14) (.tmp 15) rfl rfl ho rfl (hb.alloc _) (by simp; omega) (by simp) ?_)
  intro v1 w1 hown1 hb1
  have hown1' : OwnB w1 w.heap.size 5 v1 bs := by simpa using hown1
  have bw1 : Below w.heap.size w w1 := ((Below.refl _ w).alloc (Nat.le_refl _) _).trans hb1
  clear hown1 hb1 ho
  obtain ⟨a1, c1, rfl⟩ := hown1'.slice
  go_wp2_with fail
  refine (read_any _ bs w1 hown1'.bs (by omega)).mono ?_
  rintro e w2 ⟨gx, ax, cx, rfl, hgx, hhx, hownx, hb2⟩
  have bw2 := bw1.trans (hb2.mono bw1.size)
  go_wp2_with fail
  refine (yread_any _ bs w2 (hb.below bw2) lb).mono ?_
  rintro e w3 ⟨gy, ay, cy, rfl, hgy, hhy, howny, hb3⟩
  have bw3 := bw2.trans (hb3.mono bw2.size)
  have z1 := bw1.size
  have z2 := hb2.size
  have z3 := hb3.size
  have hgx2 : gx < w2.heap.size := (Array.getElem?_eq_some_iff.1 hhx).1
  have F : RFix w.heap.size gx gy ax ay := ⟨by omega, by omega, by omega, hownx.noObj hhx (by decide), hownx.noBlk (.inr hgy), howny.noBlk (.inl hgx2), howny.noObj hhy (by decide)⟩
  have hI : RInv w3.heap.size w.heap.size gx gy ax ay bs.length cx cy bs w w3 0 0 := ⟨(hb3.block gx hgx2).trans hhx, hhy, hownx.bs.below hb3, howny.bs, bw3, Nat.le_refl _⟩
  have hO : OwnB w3 w.heap.size 5 (.slice a1 bs.length c1) bs := hown1'.below (hb2.trans (hb3.mono z2))
  have hfar : ∀ g, g < w1.heap.size → g ≠ gx ∧ g ≠ gy ∧ NoBlk ax g ∧ NoBlk ay g := fun g hg => ⟨by omega, by omega, hownx.noBlk (.inl hg), howny.noBlk (.inl (by omega))⟩
  have hnew : ∀ g, w3.heap.size ≤ g → NoBlk ax g ∧ NoBlk ay g := fun g hg => ⟨(hownx.below hb3).noBlk (.inr hg), howny.noBlk (.inr hg)⟩
  have HNew : Hid _ := hnew
  have hat : 0 < bs.length → ∃ g, a1 = some ⟨g, 0, none⟩ ∧ w.heap.size ≤ g ∧ g < w1.heap.size := hown1'.at
  have HF : Hid _ := hfar
  have HA : Hid _ := hat
  clear hfar hat hnew hownx howny hhx hhy hb2 hb3 bw1 bw2 bw3 hown1' hgx hgy hgx2 z1 z2 z3
  go_wp2
  go_loopw [8] (fun i wr => ∃ (k : Nat) (zs : List Int), k ≤ bs.length ∧ i = .int .i64 k ∧ zs.length = bs.length ∧ OwnB wr w.heap.size 5 (.slice a1 bs.length c1) zs ∧ RInv w3.heap.size w.heap.size gx gy ax ay bs.length cx cy bs w wr 0 0) (fun i _ => bs.length - (intOf i).toNat)
  case atStart => exact ⟨0, bs, Nat.zero_le _, rfl, rfl, hO, hI⟩
  case round =>
    clear hO hI
    obtain ⟨k, zs, hk, rfl, hzl, hO, hI⟩ := hrel
    have HZ : Hid (zs.length = bs.length) := hzl
    clear hzl
    by_cases hlt : k < bs.length
    · obtain ⟨g, rfl, hgB, hg1⟩ := HA.out (by omega)
      have hcell := hO.cellAt k (by rw [HZ.out]; exact hlt)
      have hfz := hO.frozenAt k
      generalize zs.getD k 0 = z at hcell
      go_wp2
      go_roundw
      case rel =>
        obtain ⟨q1, q2, q3, q4⟩ := HF.out g hg1
        obtain ⟨s1, s2⟩ := hO.stored hgB k (bits .xor .u8 z 1)
        exact ⟨k + 1, _, by omega, by go_num, by rw [List.length_set]; exact HZ.out, s1, hI.store F _ _ hgB q1 q2 q3 q4⟩
      case measure => simp [intOf]; omega
    · have HL : Hid _ := hlc
      clear hlc hO HA HF HZ hk hb
      unfold maxLen at hll
      go_wp2
      obtain ⟨wo, hwo⟩ : ∃ wo : World, wo = wr := ⟨_, rfl⟩
      rw [← hwo] at hI ⊢
      clear hwo
      go_loopw [9] (fun i wr => ∃ (j : Nat) (e p : Int), j ≤ ls.length ∧ j ≤ 60 ∧ i = .int .i64 j ∧ RInv w3.heap.size w.heap.size gx gy ax ay bs.length cx cy bs w wr e p) (fun i _ => 60 - (intOf i).toNat)
      case atStart => exact ⟨0, 0, 0, Nat.zero_le _, Nat.zero_le _, rfl, hI⟩
      case round =>
        clear hI
        obtain ⟨j, e, p, hj, hj60, rfl, hI⟩ := hrel
        by_cases hend : j < ls.length ∧ j < 60
        · obtain ⟨hjl, hj6⟩ := hend
          obtain ⟨bl, ol, rfl, hd0, hd1⟩ := HL.out j hjl
          have hl0 := (hI.low.cell (World.block_lt_of_cell? _ _ hd0)).trans hd0
          have hl1 := (hI.low.cell (World.block_lt_of_cell? _ _ hd1)).trans hd1
          obtain ⟨⟨d, n⟩, hdn⟩ : ∃ q, q = ls.getD j (0, 0) := ⟨_, rfl⟩
          rw [← hdn] at hl0 hl1 hd1
          simp only at hl0 hl1 hd1
          have HLc : Hid (∀ wx, Below w.heap.size w wx → wx.cell? ⟨bl, ol + j * 2 + 1, none⟩ = some (.int .i64 n)) := fun wx hbx => (hbx.cell (World.block_lt_of_cell? _ _ hd1)).trans hd1
          clear hdn hd0 hd1
          by_cases hz : d = 0
          · subst hz
            go_wp2_with fail
            refine (xnum_any gx ax bs.length cx bs e p wr hI.hx hI.bx byb).mono ?_
            rintro r w4 ⟨rfl, hx4, gr4⟩
            obtain ⟨hy4, by4, low4⟩ := hI.mid F gr4
            go_wp2_with fail
            refine (ynum_any gy ay bs.length cy bs e p w4 hy4 by4 byb).mono ?_
            rintro r w5 ⟨rfl, hy5, gr5⟩
            have hI5 := hI.steps F gr4 hx4 gr5 hy5
            clear hx4 gr4 hy4 by4 low4 hy5 gr5 hI hl0 hl1
            obtain ⟨⟨R2, P2, E2⟩, hST⟩ : ∃ q, q = stepI e p (tkNum bs p) := ⟨_, rfl⟩
            rw [← hST] at hI5 ⊢
            simp only at hI5 ⊢
            clear hST
            have hId := hI5.drew
            have hyc := (yo_cells hId.hy).2.1
            clear hI5
            go_wp2
            go_region_held3 (fun w' => RInv w3.heap.size w.heap.size gx gy ax ay bs.length cx cy bs w w' E2 P2 ∧ w'.cell? ⟨gy, 1, none⟩ = some (.int .i64 P2)) ((refine ⟨?_, ?_⟩ <;> assumption)) (first | (go_at_call 30; refine (xend_any gx ax bs.length cx E2 P2 _ ?_).mono ?_; (exact RInv.hx (by assumption)); rintro r wn ⟨rfl, hbn⟩; have hIn := RInv.later F (by assumption) hbn; have hyn := (yo_cells hIn.hy).2.1) | (go_at_call 31; refine (yend_any gy ay bs.length cy E2 P2 _ ?_).mono ?_; (exact RInv.hy (by assumption)); rintro r wn ⟨rfl, hbn⟩; have hIn := RInv.later F (by assumption) hbn; have hyn := (yo_cells hIn.hy).2.1) | (go_at_call 32; refine (at_any gx P2 _ ?_).mono ?_; (exact (xo_cells (RInv.hx (by assumption))).2.2.1); rintro r wn ⟨rfl, rfl⟩))
            go_wp2
            go_roundw
            case rel => exact ⟨j + 1, E2, P2, by omega, by omega, by go_num, by assumption⟩
            case measure => simp [intOf]; omega
          · have hz' : (d == 0) = false := by simpa using hz
            by_cases h1 : d = 1
            · subst h1
              have hIw := hI.drew
              have hlw : wr.drew.cell? ⟨bl, ol + j * 2 + 1, none⟩ = some (.int .i64 n) := hl1
              go_wp2
              clear hI hl0 hl1
              go_region_held3 (fun w' => w'.cell? ⟨bl, ol + j * 2 + 1, none⟩ = some (.int .i64 n)) (assumption) (first | (go_at_call 26; refine (xfix_any gx ax bs.length cx bs e p n _ ?_ ?_ byb).mono ?_; (exact hIw.hx); (exact hIw.bx); rintro r w4 ⟨rfl, hx4, gr4⟩; have hm4 := hIw.mid F gr4; have hl4 := HLc.out w4 hm4.2.2) | (go_at_call 27; refine (yfix_any gy ay bs.length cy bs e p n _ ?_ ?_ byb).mono ?_; (exact hm4.1); (exact hm4.2.1); rintro r w5 ⟨rfl, hy5, gr5⟩; have hI5 := hIw.steps F gr4 hx4 gr5 hy5; have hl5 := HLc.out w5 hI5.low))
              clear hlw hl4 hl5 hx4 gr4 hm4 hy5 gr5 hIw
              obtain ⟨⟨R2, P2, E2⟩, hST⟩ : ∃ q, q = stepI e p (tkFix bs p n) := ⟨_, rfl⟩
              rw [← hST] at hI5 ⊢
              simp only at hI5 ⊢
              clear hST
              have hId := hI5.drew
              have hyc := (yo_cells hId.hy).2.1
              clear hI5
              go_wp2
              go_region_held3 (fun w' => RInv w3.heap.size w.heap.size gx gy ax ay bs.length cx cy bs w w' E2 P2 ∧ w'.cell? ⟨gy, 1, none⟩ = some (.int .i64 P2)) ((refine ⟨?_, ?_⟩ <;> assumption)) (first | (go_at_call 30; refine (xend_any gx ax bs.length cx E2 P2 _ ?_).mono ?_; (exact RInv.hx (by assumption)); rintro r wn ⟨rfl, hbn⟩; have hIn := RInv.later F (by assumption) hbn; have hyn := (yo_cells hIn.hy).2.1) | (go_at_call 31; refine (yend_any gy ay bs.length cy E2 P2 _ ?_).mono ?_; (exact RInv.hy (by assumption)); rintro r wn ⟨rfl, hbn⟩; have hIn := RInv.later F (by assumption) hbn; have hyn := (yo_cells hIn.hy).2.1) | (go_at_call 32; refine (at_any gx P2 _ ?_).mono ?_; (exact (xo_cells (RInv.hx (by assumption))).2.2.1); rintro r wn ⟨rfl, rfl⟩))
              go_wp2
              go_roundw
              case rel => exact ⟨j + 1, E2, P2, by omega, by omega, by go_num, by assumption⟩
              case measure => simp [intOf]; omega
            · have h1' : (d == 1) = false := by simpa using h1
              go_wp2_with fail
              refine (xtext_any gx ax bs.length cx bs e p n wr hI.hx hI.bx byb (by omega)).mono ?_
              rintro r w4 ⟨vp, rfl, hown4, hx4, gr4⟩
              obtain ⟨hy4, by4, low4⟩ := hI.mid F gr4
              obtain ⟨⟨t, P2, E2⟩, hST⟩ : ∃ q, q = stepT e p (tkText bs p n) := ⟨_, rfl⟩
              rw [← hST] at hown4 hx4
              simp only at hown4 hx4
              have HST : Hid _ := hST
              clear hST
              obtain ⟨ap, cp, rfl⟩ := hown4.slice
              have hconv := run_str Try.bt (Bs.drew hown4.bs) 9 Try.underlying9
              obtain ⟨sp, hsp⟩ : ∃ sp, sp = strOfNums t := ⟨_, rfl⟩
              rw [← hsp] at hconv
              have HSP : Hid _ := hsp
              have hlw : w4.drew.cell? ⟨bl, ol + j * 2 + 1, none⟩ = some (.int .i64 n) := HLc.out w4 low4
              clear hsp hl0 hl1
              have j0 : (0 : Int) ≤ j := by omega
              have jl : (j : Int) < ls.length := by omega
              go_wp2
              refine wp_region_held_drew (S := fun w' => w'.cell? ⟨bl, ol + j * 2 + 1, none⟩ = some (.int .i64 n) ∧ Sem.run Try.prog (convert 22 9 (.slice ap t.length cp)) w' = .ok (.string sp) w') (by kernel_rfl) ⟨hlw, hconv⟩ (fun hS => ?_)
              refine wpAnyH_take (i := 0) (v := .slice ap t.length cp) rfl (by kernel_rfl) (by kernel_rfl) (by kernel_rfl) (fun _ _ _ h => h) (Or.inl ⟨by kernel_rfl, fun _ _ => by kernel_rfl⟩) hS ?_
              refine wpAnyH_take (i := 1) (v := .string sp) rfl (by kernel_rfl) (by kernel_rfl) (by kernel_rfl) (fun _ _ _ h => h) (Or.inl ⟨by kernel_rfl, fun wx hx => by have hx2 := hx.2; go_simp⟩) hS ?_
              refine wpAnyH_take (i := 2) (v := .pointer (some ⟨gy, 0, none⟩)) rfl (by kernel_rfl) (by kernel_rfl) (by kernel_rfl) (fun _ _ _ h => h) (Or.inl ⟨by kernel_rfl, fun _ _ => by kernel_rfl⟩) hS ?_
              refine wpAnyH_take (i := 3) (v := .slice (some ⟨bl, ol, none⟩) ls.length capl) rfl (by kernel_rfl) (by kernel_rfl) (by kernel_rfl) (fun _ _ _ h => h) (Or.inl ⟨by kernel_rfl, fun _ _ => by kernel_rfl⟩) hS ?_
              refine wpAnyH_take (i := 4) (v := .int .i64 j) rfl (by kernel_rfl) (by kernel_rfl) (by kernel_rfl) (fun _ _ _ h => h) (Or.inl ⟨by kernel_rfl, fun _ _ => by kernel_rfl⟩) hS ?_
              refine wpAnyH_take (i := 5) (v := .pointer (some ⟨bl, ol + j * 2, none⟩)) rfl (by kernel_rfl) (by kernel_rfl) (by kernel_rfl) (fun _ _ _ h => h) (Or.inl ⟨by kernel_rfl, fun wx _ => by go_simp⟩) hS ?_
              refine wpAnyH_take (i := 6) (v := .pointer (some ⟨bl, ol + j * 2 + 1, none⟩)) rfl (by kernel_rfl) (by kernel_rfl) (by kernel_rfl) (fun _ _ _ h => h) (Or.inl ⟨by kernel_rfl, fun wx _ => by go_simp⟩) hS ?_
              refine wpAnyH_take (i := 7) (v := .int .i64 n) rfl (by kernel_rfl) (by kernel_rfl) (by kernel_rfl) (fun _ _ _ h => h) (Or.inl ⟨by kernel_rfl, fun wx hx => by have hx1 := hx.1; go_simp⟩) hS ?_
              refine wpAnyH_ready (rs := [8]) (by kernel_rfl) (by simp) (AllReadyH.cons rfl (fun K hK => ?_) AllReadyH.nil)
              go_simp
              refine (ytext_any gy ay bs.length cy bs e p n w4.drew hy4 (Bs.drew by4) byb (by omega)).mono ?_
              rintro r w5 ⟨vq, rfl, hown5, hy5, gr5⟩
              rw [← HST.out] at hown5 hy5
              simp only at hown5 hy5
              have gr5' := grown_of_drew gr5
              have hI5 := hI.steps F gr4 hx4 gr5' hy5
              have hnp := hown4.noBlk (.inl hI.szy)
              have ho5 : OwnB w5 wr.heap.size 5 (.slice ap t.length cp) t := hown4.kept' gr5' hnp
              have hz5 : Hid (w3.heap.size ≤ wr.heap.size) := hI.sz
              have hxl : Hid (gx < wr.heap.size) := hI.szx
              have hyl : Hid (gy < wr.heap.size) := hI.szy
              have hBl : Hid (w.heap.size ≤ wr.heap.size) := hI.low.size
              have c5 := run_str Try.bt ho5.bs 9 Try.underlying9
              have d5 := run_str Try.bt hown5.bs 9 Try.underlying9
              have hl5 := HLc.out w5 hI5.low
              rw [← HSP.out] at c5 d5
              clear hx4 gr4 hy4 by4 low4 hy5 gr5 gr5' hown5 hown4 hnp hconv hlw hS hI HST HSP
              refine hK.out _ _ ⟨hl5, c5⟩ (fun hS => ?_)
              clear hK
              refine wpAnyH_ready (rs := [9]) (by kernel_rfl) (by simp) (AllReadyH.cons rfl (fun K hK => ?_) AllReadyH.nil)
              go_simp
              refine hK.out _ _ ⟨hl5, c5⟩ (fun hS => ?_)
              clear hK
              refine wpAnyH_take (i := 10) (v := .bool true) rfl (by kernel_rfl) (by kernel_rfl) (by kernel_rfl) (fun _ _ _ h => h) (Or.inl ⟨by kernel_rfl, fun wx _ => by go_simp⟩) hS ?_
              refine wpAnyH_take (i := 11) (v := .bool true) rfl (by kernel_rfl) (by kernel_rfl) (by kernel_rfl) (fun _ _ _ h => h) (Or.inl ⟨by kernel_rfl, fun _ _ => by kernel_rfl⟩) hS ?_
              refine wpAnyH_done (by kernel_rfl) ?_ _
              have htl := ho5.bs.len
              unfold maxLen at htl
              have hpa : 0 < t.length → ∃ g, ap = some ⟨g, 0, none⟩ ∧ wr.heap.size ≤ g ∧ g < w5.heap.size := ho5.at
              have HPA : Hid _ := hpa
              clear hpa c5 d5 hl5 hS
              go_wp2
              go_loopw [12] (fun q wi => ∃ (m : Nat) (zs : List Int), m ≤ t.length ∧ q = .int .i64 m ∧ zs.length = t.length ∧ OwnB wi wr.heap.size 5 (.slice ap t.length cp) zs ∧ RInv w3.heap.size w.heap.size gx gy ax ay bs.length cx cy bs w wi E2 P2) (fun q _ => t.length - (intOf q).toNat)
              case atStart => exact ⟨0, t, Nat.zero_le _, rfl, rfl, ho5, hI5⟩
              case round =>
                clear ho5 hI5
                obtain ⟨m, zs, hm, rfl, hzl, hO, hI5⟩ := hrel
                have HZ : Hid (zs.length = t.length) := hzl
                clear hzl
                by_cases hlt2 : m < t.length
                · obtain ⟨g, rfl, hgB, hg1⟩ := HPA.out (by omega)
                  have hcell := hO.cellAt m (by rw [HZ.out]; exact hlt2)
                  have hfz := hO.frozenAt m
                  generalize zs.getD m 0 = z at hcell
                  go_wp2
                  go_roundw
                  case rel =>
                    have e1 := hz5.out
                    have e2 := hxl.out
                    have e3 := hyl.out
                    have e4 := hBl.out
                    obtain ⟨q3, q4⟩ := HNew.out g (by omega)
                    obtain ⟨s1, s2⟩ := hO.stored hgB m (bits .xor .u8 z 1)
                    exact ⟨m + 1, _, by omega, by go_num, by rw [List.length_set]; exact HZ.out, s1, hI5.store F _ _ (by omega) (by omega) (by omega) q3 q4⟩
                  case measure => simp [intOf]; omega
                · have hId := hI5.drew
                  have hyc := (yo_cells hId.hy).2.1
                  clear hI5 hO HZ HPA
                  go_wp2
                  go_region_held3 (fun w' => RInv w3.heap.size w.heap.size gx gy ax ay bs.length cx cy bs w w' E2 P2 ∧ w'.cell? ⟨gy, 1, none⟩ = some (.int .i64 P2)) ((refine ⟨?_, ?_⟩ <;> assumption)) (first | (go_at_call 30; refine (xend_any gx ax bs.length cx E2 P2 _ ?_).mono ?_; (exact RInv.hx (by assumption)); rintro r wn ⟨rfl, hbn⟩; have hIn := RInv.later F (by assumption) hbn; have hyn := (yo_cells hIn.hy).2.1) | (go_at_call 31; refine (yend_any gy ay bs.length cy E2 P2 _ ?_).mono ?_; (exact RInv.hy (by assumption)); rintro r wn ⟨rfl, hbn⟩; have hIn := RInv.later F (by assumption) hbn; have hyn := (yo_cells hIn.hy).2.1) | (go_at_call 32; refine (at_any gx P2 _ ?_).mono ?_; (exact (xo_cells (RInv.hx (by assumption))).2.2.1); rintro r wn ⟨rfl, rfl⟩))
                  go_wp2
                  go_roundw
                  case rel => exact ⟨j + 1, E2, P2, by omega, by omega, by go_num, by assumption⟩
                  case measure => simp [intOf]; omega
        · by_cases hjl : j < ls.length
          · have hj6 : ¬ (j : Int) < 60 := by omega
            go_wp2_with fail
            refine (live_any wr).mono ?_
            rintro r w4 ⟨rfl, hb4⟩
            have low4 := hI.low.trans (hb4.mono hI.low.size)
            go_wp2_with fail
            refine (end_nil w4).mono ?_
            rintro r w5 ⟨rfl, hb5⟩
            have low5 := low4.trans (hb5.mono low4.size)
            go_wp2_with fail
            refine (xnum_nil w5).mono ?_
            rintro r w6 ⟨rfl, rfl⟩
            go_wp2_with fail
            refine (xfix_nil 1 w5).mono ?_
            rintro r w6 ⟨rfl, rfl⟩
            go_wp2_with fail
            refine (at_nil w5).mono ?_
            rintro r w6 ⟨rfl, rfl⟩
            go_wp2_with fail
            refine (rtext_nil 3 w5).mono ?_
            rintro r w6 ⟨rfl, rfl⟩
            go_wp2
            go_ret
            exact ⟨rfl, low5⟩
          · go_wp2_with fail
            refine (live_any wr).mono ?_
            rintro r w4 ⟨rfl, hb4⟩
            have low4 := hI.low.trans (hb4.mono hI.low.size)
            go_wp2_with fail
            refine (end_nil w4).mono ?_
            rintro r w5 ⟨rfl, hb5⟩
            have low5 := low4.trans (hb5.mono low4.size)
            go_wp2_with fail
            refine (xnum_nil w5).mono ?_
            rintro r w6 ⟨rfl, rfl⟩
            go_wp2_with fail
            refine (xfix_nil 1 w5).mono ?_
            rintro r w6 ⟨rfl, rfl⟩
            go_wp2_with fail
            refine (at_nil w5).mono ?_
            rintro r w6 ⟨rfl, rfl⟩
            go_wp2_with fail
            refine (rtext_nil 3 w5).mono ?_
            rintro r w6 ⟨rfl, rfl⟩
            go_wp2
            go_ret
            exact ⟨rfl, low5⟩
end Go.Proofs.Ythfikoghbnicoaa
