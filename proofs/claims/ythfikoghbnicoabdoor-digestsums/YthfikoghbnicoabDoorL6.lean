/- The walk of DigestPieces, from the contract of the document's sum. -/
import Derived.Test.YthfikoghbnicoabDoorL5
import Derived.Test.YthfikoghbnicoabDoorL3
namespace Go.Proofs.YthfikoghbnicoabDoor
open Go.RowKit

theorem OwnB.keepAt {w w' : World} {base : Nat} {v : Value} {xs : List Int} (h : OwnB w base 5 v xs) (hk : ∀ k, v.ownBlock = some k → w'.heap[k]? = w.heap[k]?) : OwnB w' base 5 v xs := by
  refine ⟨h.1, ?_⟩
  rcases h.2 with hn | ⟨g, cap, cur, rfl, hb, hg, r⟩
  · exact .inl hn
  · exact .inr ⟨g, cap, cur, rfl, hb, (hk g rfl).trans hg, r⟩

theorem OwnB.keep {w w' : World} {base : Nat} {v : Value} {xs : List Int} (h : OwnB w base 5 v xs) (hk : ∀ k, base ≤ k → k < w.heap.size → w'.heap[k]? = w.heap[k]?) : OwnB w' base 5 v xs := by
  refine ⟨h.1, ?_⟩
  rcases h.2 with hn | ⟨g, cap, cur, rfl, hb, hg, r⟩
  · exact .inl hn
  · exact .inr ⟨g, cap, cur, rfl, hb, (hk g hb (Array.getElem?_eq_some_iff.1 hg).1).trans hg, r⟩

theorem diff24 (w : World) (f : Nat → Int) : (binOp .neq 24 (.agg (arr .u8 32 f)) (.agg (arr .u8 32 f))).run Tryd.prog w = .ok (.bool false) w := by
  rw [run_neq_struct, eq24 w f f 9998]
  have : ((List.range' 0 32).all fun i => f i == f i) = true := by simp
  rw [this]
  rfl

theorem flat_succ (ls : List (List Int)) (k : Nat) (h : k < ls.length) : (ls.take (k + 1)).flatten = (ls.take k).flatten ++ ls.getD k [] := by
  rw [List.take_succ_eq_append_getElem h, List.flatten_append, List.getD_eq_getElem?_getD, List.getElem?_eq_getElem h]
  simp
theorem flat_le (ls : List (List Int)) : ∀ k, (ls.take k).flatten.length ≤ ls.flatten.length := by
  intro k
  have : ls.flatten = (ls.take k).flatten ++ (ls.drop k).flatten := by rw [← List.flatten_append, List.take_append_drop]
  rw [this, List.length_append]
  omega
theorem flat_byte (ls : List (List Int)) (h : ∀ t ∈ ls, ∀ x ∈ t, 0 ≤ x ∧ x < 256) (k : Nat) : ∀ x ∈ (ls.take k).flatten, 0 ≤ x ∧ x < 256 := by
  intro x hx
  obtain ⟨t, ht, hx⟩ := List.mem_flatten.1 hx
  exact h t (List.mem_of_mem_take ht) x hx

set_option maxHeartbeats 4000000 in
theorem pieces_core (ad : Option Addr) (b off cap n : Nat) (ls : List (List Int)) (vs : Nat → Value) (w : World) (hV : Vars w) (hn : ls.length = n) (hlc : n ≤ cap) (hm : cap ≤ maxLen)
    (had : 0 < n → ad = some ⟨b, off, none⟩) (hc : ∀ i, i < n → w.cell? ⟨b, off + i, none⟩ = some (vs i)) (hbs : ∀ i, i < n → Bs w (vs i) (ls.getD i []))
    (hby : ∀ t ∈ ls, ∀ x ∈ t, 0 ≤ x ∧ x < 256) (hl : ls.flatten.length ≤ 1048576) (hR : RefAt w) :
    Calls Tryd.prog 4 #[.slice ad n cap] w fun e w' => e = .returned (.bool true) ∧ Below w.heap.size w w' := by
  unfold maxLen at hm
  have HV : Hid (Vars w) := hV
  have HC : Hid (∀ i, i < n → w.cell? ⟨b, off + i, none⟩ = some (vs i)) := hc
  have HBS : Hid (∀ i, i < n → Bs w (vs i) (ls.getD i [])) := hbs
  have HBY : Hid (∀ t ∈ ls, ∀ x ∈ t, 0 ≤ x ∧ x < 256) := hby
  have HAD : Hid (0 < n → ad = some ⟨b, off, none⟩) := had
  have HR : Hid (RefAt w) := hR
  have HN : Hid (ls.length = n) := hn
  have hk2 := hV.keys.lt
  have hdf := fun (w : World) (f : Nat → Int) => diff24 w f
  have hsm := fun (w : World) (f : Nat → Int) => same24 w f
  have hg1 := fun (w : World) (xs ys : Array Value) => guard24 w .neq (.tmp 48) (.tmp 50) xs ys
  have hg2 := fun (w : World) (xs ys : Array Value) => guard24 w .eql (.tmp 56) (.tmp 58) xs ys
  clear hV hc hbs hby had hR hn
  go_enter Tryd.func4, Tryd.ntmps4
  go_wp2_with (go_at_call 12; refine (new_any SL w HV.out.start).mono ?_; rintro e w1 ⟨rfl, hH1, hb1⟩)
  have hl1 := hH1.lt
  obtain ⟨gh, Hgh⟩ : ∃ gh, Hid (gh = w.heap.size) := ⟨_, rfl⟩
  rw [← Hgh.out] at hH1 hl1 hk2 ⊢
  have hgh : gh ≤ w.heap.size := by rw [Hgh.out]; omega
  have hgh' : w.heap.size ≤ gh := by rw [Hgh.out]; omega
  go_loopw [4, 5] (fun x i wr => ∃ (k : Nat) (q : HSt), k ≤ n ∧ i = .int .i64 k ∧ Hid (q = ((ls.take k).flatten).foldl (wstep KL) (q00 SL)) ∧ Hat wr gh q.s q.b q.n ∧ Hid (∀ j, 0 ≤ q.b j ∧ q.b j < 256) ∧ OwnB wr (gh + 1) 5 x ((ls.take k).flatten) ∧ Below w.heap.size w wr) (fun _ i _ => n - (intOf i).toNat)
  case atStart => exact ⟨0, q00 SL, Nat.zero_le _, rfl, rfl, hH1, q00_b SL, OwnB.nil _ _ _, hb1⟩
  case round =>
    clear hH1 hb1 hl1
    obtain ⟨k, q, hk, rfl, HQ, hH, HQB, hx, hbw⟩ := hrel
    rename World => wo
    have hqn : q.n = ((ls.take k).flatten).length := by rw [HQ.out, foldl_n]; show 0 + _ = _; omega
    have hql := flat_le ls k
    by_cases hkn : k < n
    · obtain ⟨u, Hu⟩ : ∃ u, Hid (u = vs k) := ⟨_, rfl⟩
      obtain ⟨bs, Hbs⟩ : ∃ bs, Hid (bs = ls.getD k []) := ⟨_, rfl⟩
      have hadx : ad = some ⟨b, off, none⟩ := HAD.out (by omega)
      subst hadx
      have hcu : wo.cell? ⟨b, off + k, none⟩ = some u := by rw [Hu.out]; exact (hbw.cell (World.block_lt_of_cell? _ _ (HC.out k hkn))).trans (HC.out k hkn)
      have hcu2 : (wo.alloc (.cells #[] 5)).cell? ⟨b, off + k, none⟩ = some u := Lib.cell?_alloc_marked _ hcu
      have HBU : Hid (Bs w u bs) := by rw [Hu.out, Hbs.out]; exact HBS.out k hkn
      have HBB : Hid (∀ x ∈ bs, 0 ≤ x ∧ x < 256) := by
        show ∀ x ∈ bs, _
        rw [Hbs.out, List.getD_eq_getElem?_getD, List.getElem?_eq_getElem (by have := HN.out; omega)]
        exact HBY.out _ (List.getElem_mem _)
      have HX1 : Hid ((ls.take (k + 1)).flatten = (ls.take k).flatten ++ bs) := by show _ = _; rw [Hbs.out]; exact flat_succ ls k (by have := HN.out; omega)
      have hlb : ((ls.take k).flatten).length + bs.length ≤ 1048576 := by
        have h1 := flat_le ls (k + 1)
        rw [HX1.out, List.length_append] at h1
        omega
      obtain ⟨X, HX⟩ : ∃ X, Hid (X = (ls.take k).flatten) := ⟨_, rfl⟩
      rw [← HX.out] at hx hqn hql hlb
      have hgl : gh < wo.heap.size := hH.lt
      have HH : Hid (Hat wo gh q.s q.b q.n) := hH
      have HOX : Hid (OwnB wo (gh + 1) 5 u4 X) := hx
      have HBW : Hid (Below w.heap.size w wo) := hbw
      have hszo : w.heap.size ≤ wo.heap.size := hbw.size
      clear hH hx hbw
      go_wp2_with (at_builtin; refine wp_appS Tryd.bt rfl (.tmp 15) (.tmp 19) rfl rfl (own_lit wo 5 wo.heap.size [] #[] rfl (Nat.le_refl _) (by decide)) rfl ((Bs.below HBU.out HBW.out).alloc _) (by simp; omega) (by simp) ?_; intro o w2 ho hb2; simp only [List.nil_append] at ho)
      have hb2' : Below wo.heap.size wo w2 := ((Below.refl _ wo).alloc (Nat.le_refl _) _).trans hb2
      have hbw2 : Below w.heap.size w w2 := HBW.out.trans (hb2'.mono hszo)
      refine (write_any gh q KL bs o w2 ho.bs (Hat.below HH.out hb2') (ho.off hgl) (by omega) (HV.out.below hbw2).keys HBB.out HQB.out (by omega)).mono ?_
      rintro e w3 ⟨rfl, ⟨q3, HQ3', hH3, hqb3⟩, hgr3⟩
      have HQ3 : Hid (q3 = bs.foldl (wstep KL) q) := HQ3'
      have hq3n : q3.n = X.length + bs.length := by rw [HQ3', foldl_n, hqn]
      have HH3 : Hid (Hat w3 gh q3.s q3.b q3.n) := hH3
      have HQB3 : Hid (∀ j, 0 ≤ q3.b j ∧ q3.b j < 256) := hqb3
      have ho3 : OwnB w3 wo.heap.size 5 o bs := ho.keep (fun j hj hj2 => hgr3.block j hj2 (by simp; omega))
      have hOX3 : OwnB w3 (gh + 1) 5 u4 X := by
        refine OwnB.keep HOX.out (fun j hj hj2 => ?_)
        exact (hgr3.block j (Nat.lt_of_lt_of_le hj2 hb2'.size) (by simp; omega)).trans (hb2'.block j hj2)
      have hbw3 : Below w.heap.size w w3 := below_of_grown hbw2 hgr3 hgh' (Nat.le_refl _)
      have hsz3 : wo.heap.size ≤ w3.heap.size := Nat.le_trans hb2'.size hgr3.size
      have hcu3 : w3.cell? ⟨b, off + k, none⟩ = some u := by rw [Hu.out]; exact (hbw3.cell (World.block_lt_of_cell? _ _ (HC.out k hkn))).trans (HC.out k hkn)
      have HBW3 : Hid (Below w.heap.size w w3) := hbw3
      have HOX3 : Hid (OwnB w3 (gh + 1) 5 u4 X ∧ ∀ j, u4.ownBlock = some j → j < wo.heap.size) := ⟨hOX3, fun j hj => (World.ownsRow.lt HOX.out j hj).2⟩
      obtain ⟨ao, co, hoe, hol, hom, _, _⟩ := ho.bs
      have hgo : 0 < bs.length → ∃ go, ao = some ⟨go, 0, none⟩ ∧ wo.heap.size ≤ go := by
        intro h
        obtain ⟨g, c, h1, h2, _, _⟩ := own_shape ho (by intro e; rw [e] at h; simp at h)
        rw [hoe] at h1
        simp only [Value.slice.injEq] at h1
        exact ⟨g, h1.1, h2⟩
      subst hoe
      unfold maxLen at hom
      clear HQ3' hH3 hqb3 ho hgr3 hb2 hb2' hbw2 hOX3 hbw3 hcu hcu2 HH HOX HBW
      obtain ⟨m, Hm⟩ : ∃ m, Hid (m = bs.length) := ⟨_, rfl⟩
      rw [← Hm.out] at hgo hol hlb hq3n ho3 ⊢
      have hm20 : m ≤ 1048576 := by omega
      go_wp2
      go_loopw [7] (fun i wr => ∃ (j : Nat) (ys : List Int), j ≤ m ∧ i = .int .i64 j ∧ ys.length = m ∧ OwnB wr wo.heap.size 5 (.slice ao m co) ys ∧ Below wo.heap.size w3 wr) (fun i _ => m - (intOf i).toNat)
      case atStart => exact ⟨0, bs, Nat.zero_le _, rfl, Hm.out.symm, ho3, Below.refl _ _⟩
      case round =>
        clear ho3
        obtain ⟨j, ys, hj, rfl, hyl, hoy, hb4⟩ := hrel
        rename World => w4
        by_cases hjm : j < m
        · obtain ⟨go, hao, hgo1⟩ := hgo (by omega)
          subst hao
          have cy := hoy.cellAt j (by omega)
          have fy := hoy.frozenAt j
          obtain ⟨y, Hy⟩ : ∃ y, Hid (y = ys.getD j 0) := ⟨_, rfl⟩
          rw [← Hy.out] at cy
          have hst := hoy.stored hgo1 j (bits .xor .u8 y 1)
          have HST : Hid (OwnB (w4.setCell ⟨go, j, none⟩ (.int .u8 (bits .xor .u8 y 1))) wo.heap.size 5 (.slice (some ⟨go, 0, none⟩) m co) (ys.set j (bits .xor .u8 y 1))) := hst.1
          have HBT : Hid (Below wo.heap.size w3 (w4.setCell ⟨go, j, none⟩ (.int .u8 (bits .xor .u8 y 1)))) := hb4.trans hst.2
          clear hst hoy hb4
          go_wp2
          go_roundw
          case rel => exact ⟨j + 1, _, by omega, by go_num, by rw [List.length_set]; exact hyl, HST.out, HBT.out⟩
          case measure => simp [intOf]; omega
        · have hj' : j = m := by omega
          subst hj'
          have hb4w : Below w.heap.size w w4 := HBW3.out.trans (hb4.mono hszo)
          have hH4 : Hat w4 gh q3.s q3.b q3.n := Hat.block HH3.out (hb4.block gh hgl)
          have hOX4 : OwnB w4 (gh + 1) 5 u4 X := OwnB.keepAt HOX3.out.1 (fun j hj => hb4.block j (HOX3.out.2 j hj))
          have hcu4 : w4.cell? ⟨b, off + k, none⟩ = some u := by rw [Hu.out]; exact (hb4w.cell (World.block_lt_of_cell? _ _ (HC.out k hkn))).trans (HC.out k hkn)
          have HH4 : Hid (Hat w4 gh q3.s q3.b q3.n) := hH4
          have HOX4 : Hid (OwnB w4 (gh + 1) 5 u4 X) := hOX4
          have HB4 : Hid (Below w.heap.size w w4) := hb4w
          have hsz4 : gh + 1 ≤ w4.heap.size := hH4.lt
          clear hoy hb4 hb4w hH4 hOX4 HOX3 HH3 HBW3 hcu3
          by_cases hk3 : k % 3 = 1
          · have hk3' : ((k : Int) % 3 == 1) = true := by simp; omega
            go_wp2_with (at_builtin; refine wp_appS Tryd.bt rfl (.tmp 37) (.tmp 41) rfl rfl HOX4.out rfl (Bs.below HBU.out HB4.out) (by have := Hm.out; omega) hsz4 ?_; intro x5 w5 hx5 hb5)
            have hb5w : Below w.heap.size w w5 := HB4.out.trans (hb5.mono (by omega))
            have hH5 : Hat w5 gh q3.s q3.b q3.n := Hat.block HH4.out (hb5.block gh (by omega))
            refine (sum_any gh q3 KL w5 hH5 (HV.out.below hb5w).keys HQB3.out (by omega)).mono ?_
            rw [show outB (fin KL q3).s = outB (shaS KL SL (X ++ bs)) by rw [HQ3.out, HQ.out, ← HX.out, sha_two]]
            obtain ⟨f, Hf⟩ : ∃ f, Hid (f = outB (shaS KL SL (X ++ bs))) := ⟨_, rfl⟩
            rw [← Hf.out]
            rintro e w6 ⟨rfl, hb6⟩
            have hb6w : Below w.heap.size w w6 := hb5w.trans (hb6.mono hb5w.size)
            have HH6 : Hid (Hat w6 gh q3.s q3.b q3.n) := hH5.below hb6
            have hx6 : OwnB w6 (gh + 1) 5 x5 (X ++ bs) := hx5.below hb6
            clear hx5 hb5 hH5 hb5w hb6
            go_wp2_with fail
            refine (dsum_any x5 (X ++ bs) KL SL w6 hx6.bs (HV.out.below hb6w).keys (HV.out.below hb6w).start ?_ (by rw [List.length_append]; have := Hm.out; omega)).mono ?_
            · rw [HX.out, ← HX1.out]; exact flat_byte ls HBY.out _
            rw [← Hf.out]
            rintro e w7 ⟨rfl, hb7⟩
            have hb7w : Below w.heap.size w w7 := hb6w.trans (hb7.mono hb6w.size)
            have HH7 : Hid (Hat w7 gh q3.s q3.b q3.n) := Hat.below HH6.out hb7
            have HX7 : Hid (OwnB w7 (gh + 1) 5 x5 (X ++ bs)) := hx6.below hb7
            clear hx6 HH6 hb6w hb7
            go_wp2
            go_roundw
            case rel => exact ⟨k + 1, q3, by omega, by go_num, by show _ = _; rw [HX1.out, List.foldl_append, ← HQ.out, HQ3.out], HH7.out, HQB3, by rw [HX1.out, ← HX.out]; exact HX7.out, hb7w⟩
            case measure => simp [intOf]; omega
          · have hk3' : ((k : Int) % 3 == 1) = false := by simp; omega
            go_wp2_with (at_builtin; refine wp_appS Tryd.bt rfl (.tmp 37) (.tmp 41) rfl rfl HOX4.out rfl (Bs.below HBU.out HB4.out) (by have := Hm.out; omega) hsz4 ?_; intro x5 w5 hx5 hb5)
            have hb5w : Below w.heap.size w w5 := HB4.out.trans (hb5.mono (by omega))
            have hH5 : Hat w5 gh q3.s q3.b q3.n := Hat.block HH4.out (hb5.block gh (by omega))
            go_roundw
            case rel => exact ⟨k + 1, q3, by omega, by go_num, by show _ = _; rw [HX1.out, List.foldl_append, ← HQ.out, HQ3.out], hH5, HQB3, by rw [HX1.out, ← HX.out]; exact hx5, hb5w⟩
            case measure => simp [intOf]; omega
    · have hkn' : k = n := by omega
      subst hkn'
      have hXall : (ls.take k).flatten = ls.flatten := by rw [List.take_of_length_le (by have := HN.out; omega)]
      rw [hXall] at hx hqn
      obtain ⟨X, HX⟩ : ∃ X, Hid (X = ls.flatten) := ⟨_, rfl⟩
      have HQX : Hid (q = X.foldl (wstep KL) (q00 SL)) := by show _ = _; rw [HQ.out, hXall, HX.out]
      have HBX : Hid (∀ x ∈ X, 0 ≤ x ∧ x < 256) := by
        show ∀ x ∈ X, _
        rw [HX.out, ← hXall]
        exact flat_byte ls HBY.out k
      rw [← HX.out] at hx hqn hl
      obtain ⟨ax, cx, hxe, hxl, hxm, _, _⟩ := hx.bs
      have HXB : Hid (Bs wo u4 X) := hx.bs
      subst hxe
      unfold maxLen at hxm
      have HH : Hid (Hat wo gh q.s q.b q.n) := hH
      have hlX : X.length ≤ 1048576 := hl
      clear hx hH hXall hql
      go_wp2_with (go_at_call 9; refine (live_any wo (HV.out.below hbw)).mono ?_; rintro e w2 ⟨rfl, hb2⟩)
      have hb2w : Below w.heap.size w w2 := hbw.trans (hb2.mono hbw.size)
      have HH2 : Hid (Hat w2 gh q.s q.b q.n) := Hat.below HH.out hb2
      have HX2 : Hid (Bs w2 (.slice ax X.length cx) X) := Bs.below HXB.out hb2
      clear HH HXB hbw hb2
      refine (sum_any gh q KL w2 HH2.out (HV.out.below hb2w).keys HQB.out (by omega)).mono ?_
      rw [show outB (fin KL q).s = outB (shaS KL SL X) by rw [HQX.out]; rfl]
      obtain ⟨f, Hf⟩ : ∃ f, Hid (f = outB (shaS KL SL X)) := ⟨_, rfl⟩
      rw [← Hf.out]
      rintro e w3 ⟨rfl, hb3⟩
      have hb3w : Below w.heap.size w w3 := hb2w.trans (hb3.mono hb2w.size)
      have HH3 : Hid (Hat w3 gh q.s q.b q.n) := Hat.below HH2.out hb3
      have HX3 : Hid (Bs w3 (.slice ax X.length cx) X) := Bs.below HX2.out hb3
      clear HH2 HX2 hb2w hb3
      go_wp2_with fail
      refine (HR.out w3 _ X hb3w HX3.out HBX.out (by omega)).mono ?_
      rw [← Hf.out]
      rintro e w4 ⟨rfl, hb4⟩
      have hb4w : Below w.heap.size w w4 := hb3w.trans (hb4.mono hb3w.size)
      have HH4 : Hid (Hat w4 gh q.s q.b q.n) := Hat.below HH3.out hb4
      clear HH3 HX3 hb3w hb4
      go_wp2_with (go_at_call 15; refine (len_any gh q.s q.b q.n w4 HH4.out).mono ?_; rw [hqn]; rintro e w5 ⟨rfl, rfl⟩)
      go_ret
      exact ⟨rfl, hb4w⟩
end Go.Proofs.YthfikoghbnicoabDoor
