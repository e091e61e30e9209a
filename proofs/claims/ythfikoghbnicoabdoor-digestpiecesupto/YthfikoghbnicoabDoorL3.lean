/- The walk of DigestApart. -/
import Derived.Test.YthfikoghbnicoabDoorD15
import Derived.BigRegion
import Derived.OpenShut
namespace Go.Proofs.YthfikoghbnicoabDoor
open Go.RowKit

theorem own_shape {w : World} {base : Nat} {e : TypeId} {v : Value} {xs : List Int} (h : OwnB w base e v xs) (hne : xs ≠ []) :
    ∃ g cap, v = .slice (some ⟨g, 0, none⟩) xs.length cap ∧ base ≤ g ∧ xs.length ≤ cap ∧ cap ≤ maxLen := by
  rcases h.2 with ⟨_, h0⟩ | ⟨g, cap, cur, rfl, hb, _, h1, h2, _⟩
  · exact absurd (List.length_eq_zero_iff.1 h0) hne
  · exact ⟨g, cap, rfl, hb, h1, h2⟩

theorem xor_u8 (a b : Nat) (ha : a < 256) (hb : b < 256) : bits .xor .u8 (a : Int) (b : Int) = ((a ^^^ b : Nat) : Int) := by
  have hx : a ^^^ b < 2 ^ 8 := Nat.xor_lt_two_pow (by omega) (by omega)
  show IntKind.u8.wrap ((BitVec.ofInt 8 (a : Int) ^^^ BitVec.ofInt 8 (b : Int)).toNat : Int) = _
  have e1 : BitVec.ofInt 8 (a : Int) = BitVec.ofNat 8 a := by simp
  have e2 : BitVec.ofInt 8 (b : Int) = BitVec.ofNat 8 b := by simp
  rw [e1, e2, BitVec.toNat_xor, BitVec.toNat_ofNat, BitVec.toNat_ofNat, Nat.mod_eq_of_lt (by omega), Nat.mod_eq_of_lt (by omega), IntKind.wrap_u8]
  omega

theorem il_set (p : List Nat) (j y : Nat) : (il p).set j (y : Int) = il (p.set j y) := by simp [il, List.map_set]

set_option maxHeartbeats 1000000 in
theorem apart_core (p : List Nat) (k N a : Nat) (b : Nat → Nat) (bb off cap L : Nat) (w : World) (hL : p.length = L) (hL0 : 0 < L) (_hlc : L ≤ cap) (_hm : cap ≤ maxLen) (hl : L ≤ 140737488351232)
    (ha : a < 65536) (hk : k = a % L) (hN : N = min 4 (L - k)) (hp : ∀ x ∈ p, x < 256) (hb : ∀ j, b j < 256)
    (hu : Bs w (.slice (some ⟨bb, off, none⟩) L cap) (il p))
    (hLv : ∀ w1, Below w.heap.size w w1 → Calls Tryd.prog 9 #[] w1 fun e w' => e = .returned (.bool true) ∧ Below w1.heap.size w1 w')
    (h18 : ∀ w1 x l, Below w.heap.size w w1 → Bs w1 x (il l) → (∀ y ∈ l, y < 256) → Calls Tryd.prog 18 #[x] w1 fun e w' => e = .returned (.int .u32 (refM 0 l)) ∧ w1 = w') :
    Calls Tryd.prog 7 #[.slice (some ⟨bb, off, none⟩) L cap, .int .u16 a, .agg #[.int .u8 (b 0), .int .u8 (b 1), .int .u8 (b 2), .int .u8 (b 3)]] w fun e w' => e = .returned (.bool true) ∧ Below w.heap.size w w' := by
  unfold maxLen at _hm
  have HU : Hid (Bs w (.slice (some ⟨bb, off, none⟩) L cap) (il p)) := hu
  have HP : Hid (∀ x ∈ p, x < 256) := hp
  have HB : Hid (∀ j, b j < 256) := hb
  clear hu hp hb
  obtain ⟨w1, hw1⟩ : ∃ w1, w1 = w.alloc (.cells (arr .u8 4 (fun j => (b j : Int))) 41) := ⟨_, rfl⟩
  have hb1 : Below w.heap.size w w1 := by rw [hw1]; exact (Below.refl _ w).alloc (Nat.le_refl _) _
  have hs1 : w1.heap.size = w.heap.size + 1 := by rw [hw1]; simp
  have hA1 : Arr w1 w.heap.size 41 .u8 4 (fun j => (b j : Int)) := by rw [hw1]; exact Arr.new _ _ _ _ _
  have hk0 : ((a : Int) % (L : Int)) = (k : Int) := by rw [hk]; omega
  have hkL : k < L := by rw [hk]; exact Nat.mod_lt _ hL0
  have HK : Hid (k = a % L) := hk
  clear hk
  have hown1 : OwnB (w1.alloc (.cells #[] 5)) (w.heap.size + 1) 5 (.slice (some ⟨w.heap.size + 1, 0, none⟩) 0 0) [] := by
    have := own_lit w1 5 (w.heap.size + 1) [] #[] rfl (by omega) (by decide)
    rw [hs1] at this
    exact this
  have HLZ : Hid (((L : Int) == 0) = false) := by show _ = _; simp; omega
  have hLZ := HLZ.out
  go_enter Tryd.func7, Tryd.ntmps7
  go_wp2_with (first
    | (change wpList _ _ _ _ _ ((w.alloc (.cells (arr .u8 4 (fun j => (b j : Int))) 41)).alloc (.cells #[] 5))
       rw [← hw1]
       refine wp_appS Tryd.bt rfl (.tmp 15) (.tmp 16) rfl rfl hown1 rfl ((Bs.below HU.out hb1).alloc _) (by rw [il_length]; simp; omega) (by simp; omega) ?_
       intro x1 w2 hx1 hb2
       obtain ⟨g, cap1, rfl, hg, hgl, hgm⟩ := own_shape hx1 (by intro e; have := congrArg List.length e; rw [List.nil_append, il_length, List.length_nil] at this; omega)
       unfold maxLen at hgm
       simp only [List.nil_append, il_length, hL] at hx1 hgl ⊢
       have hbw2 : Below w.heap.size w w2 := (hb1.alloc hb1.size _).trans (hb2.mono (by omega))
       have hA2 : Arr w2 w.heap.size 41 .u8 4 (fun j => (b j : Int)) := (hA1.alloc _).block (hb2.block _ (by omega))
       clear hb2 hA1 hown1))
  rw [hk0]
  clear hk0 hw1 hb1 hs1 hLZ
  have hNL : k + N ≤ L := by omega
  go_loopw [9, 10] (fun t i wr => ∃ j : Nat, j ≤ N ∧ i = .int .i64 j ∧ t = .bool (turnedB b j) ∧ OwnB wr (w.heap.size + 1) 5 (.slice (some ⟨g, 0, none⟩) L cap1) (il (tw p k b j)) ∧ Arr wr w.heap.size 41 .u8 4 (fun j => (b j : Int)) ∧ Below w.heap.size w wr) (fun _ i _ => 4 - (intOf i).toNat)
  case atStart => exact ⟨0, Nat.zero_le _, rfl, rfl, hx1, hA2, hbw2⟩
  case round =>
    clear hx1 hA2 hbw2
    obtain ⟨j, hj, rfl, rfl, hx, hA, hbw⟩ := hrel
    have htl : (tw p k b j).length = L := by rw [tw_length, hL]
    by_cases hjN : j < N
    · have hj4 : j < 4 := by omega
      have hjL : k + j < L := by omega
      obtain ⟨c, HC⟩ : ∃ c, Hid (c = (tw p k b j).getD (k + j) 0) := ⟨_, rfl⟩
      have hc256 : c < 256 := by rw [HC.out]; exact getD_lt _ (tw_byte p k b j (by omega) HP.out HB.out) _
      have hcq : wr.cell? ⟨g, k + j, none⟩ = some (.int .u8 (c : Int)) := by
        have := hx.cellAt (k + j) (by rw [il_length]; omega)
        rw [il_getD, ← HC.out] at this
        exact this
      have hfq := hx.frozenAt (k + j)
      have hcb := hA.cell j hj4
      obtain ⟨bj, HBJ⟩ : ∃ bj, Hid (bj = b j) := ⟨_, rfl⟩
      rw [← HBJ.out] at hcb
      have hbj : bj < 256 := by rw [HBJ.out]; exact HB.out j
      have hxr : bits .xor .u8 (c : Int) (bj : Int) = ((c ^^^ bj : Nat) : Int) := xor_u8 _ _ hc256 hbj
      obtain ⟨t, HT⟩ : ∃ t, Hid (t = turnedB b j) := ⟨_, rfl⟩
      rw [← HT.out]
      have hst := hx.stored (by omega) (k + j) ((c ^^^ bj : Nat) : Int)
      have HX2 : Hid (OwnB (wr.setCell ⟨g, k + j, none⟩ (.int .u8 ((c ^^^ bj : Nat) : Int))) (w.heap.size + 1) 5 (.slice (some ⟨g, 0, none⟩) L cap1) (il (tw p k b (j + 1)))) := by
        have := hst.1
        rw [il_set] at this
        show OwnB _ _ _ _ (il ((tw p k b j).set (k + j) ((tw p k b j).getD (k + j) 0 ^^^ b j)))
        rw [← HC.out, ← HBJ.out]
        exact this
      have HBW : Hid (Below w.heap.size w (wr.setCell ⟨g, k + j, none⟩ (.int .u8 ((c ^^^ bj : Nat) : Int)))) := hbw.setCell (show w.heap.size ≤ g by omega) _
      have HA2 : Hid (Arr (wr.setCell ⟨g, k + j, none⟩ (.int .u8 ((c ^^^ bj : Nat) : Int))) w.heap.size 41 .u8 4 (fun j => (b j : Int))) := hA.setOther _ _ _ (by omega)
      have hcb2 : (wr.setCell ⟨g, k + j, none⟩ (.int .u8 ((c ^^^ bj : Nat) : Int))).drew.cell? ⟨w.heap.size, j, none⟩ = some (.int .u8 (bj : Int)) := by
        have := (Arr.cell HA2.out j hj4); rw [← HBJ.out] at this; exact this
      have HTN : Hid (turnedB b (j + 1) = (t || bj != 0)) := by show (turnedB b j || b j != 0) = _; rw [HT.out, HBJ.out]
      clear hx hst hbw
      go_wp2
      go_region
      have hX3 : OwnB (wr.setCell ⟨g, k + j, none⟩ (.int .u8 ((c ^^^ bj : Nat) : Int))).drew (w.heap.size + 1) 5 (.slice (some ⟨g, 0, none⟩) L cap1) (il (tw p k b (j + 1))) := HX2.out
      have hB3 : Below w.heap.size w (wr.setCell ⟨g, k + j, none⟩ (.int .u8 ((c ^^^ bj : Nat) : Int))).drew := Below.drew HBW.out
      have hA3 : Arr (wr.setCell ⟨g, k + j, none⟩ (.int .u8 ((c ^^^ bj : Nat) : Int))).drew w.heap.size 41 .u8 4 (fun j => (b j : Int)) := HA2.out
      clear HX2 HBW HA2 hcq hfq hcb hxr hA
      generalize (wr.setCell ⟨g, k + j, none⟩ (.int .u8 ((c ^^^ bj : Nat) : Int))).drew = w3 at hX3 hB3 hA3 hcb2 ⊢
      have HX3 : Hid (OwnB w3 (w.heap.size + 1) 5 (.slice (some ⟨g, 0, none⟩) L cap1) (il (tw p k b (j + 1)))) := hX3
      have HA3 : Hid (Arr w3 w.heap.size 41 .u8 4 (fun j => (b j : Int))) := hA3
      clear hX3 hA3
      cases t
      · have hbe : Hid (turnedB b (j + 1) = (bj != 0)) := by show _ = _; rw [HTN.out, Bool.false_or]
        clear HTN
        go_wp2
        go_roundw
        case rel =>
          refine ⟨j + 1, by omega, by go_num, ?_, HX3.out, HA3.out, hB3⟩
          rw [hbe.out]
          congr 1
          rw [Bool.eq_iff_iff]
          simp
        case measure => simp [intOf]; omega
      · have hbe : Hid (turnedB b (j + 1) = true) := by show _ = _; rw [HTN.out, Bool.true_or]
        clear HTN
        go_wp2
        go_roundw
        case rel => exact ⟨j + 1, by omega, by go_num, by rw [hbe.out], HX3.out, HA3.out, hB3⟩
        case measure => simp [intOf]; omega
    · have hjN' : j = N := by omega
      subst hjN'
      have HAP : Hid ((refM 0 p != refM 0 (tw p k b j)) = turnedB b j) := apart_tw p k b j (by omega) (by omega) HP.out HB.out
      have hQ : Bs wr (.slice (some ⟨g, 0, none⟩) L cap1) (il (tw p k b j)) := hx.bs
      have hqb := tw_byte p k b j (by omega) HP.out HB.out
      have HQ : Hid (∀ w3, Below wr.heap.size wr w3 → Calls Tryd.prog 18 #[.slice (some ⟨g, 0, none⟩) L cap1] w3 fun e w' => e = .returned (.int .u32 (refM 0 (tw p k b j))) ∧ w3 = w') := fun w3 h3 => h18 w3 _ _ (hbw.trans (h3.mono hbw.size)) (hQ.below h3) hqb
      have HPP : Hid (∀ w3, Below wr.heap.size wr w3 → Calls Tryd.prog 18 #[.slice (some ⟨bb, off, none⟩) L cap] w3 fun e w' => e = .returned (.int .u32 (refM 0 p)) ∧ w3 = w') := fun w3 h3 => h18 w3 _ _ (hbw.trans (h3.mono hbw.size)) (Bs.below HU.out (hbw.trans (h3.mono hbw.size))) HP.out
      generalize refM 0 (tw p k b j) = m2 at HAP HQ
      generalize refM 0 p = m1 at HAP HPP
      generalize turnedB b j = t at HAP ⊢
      have hkj : j < 4 → k + j = L := by omega
      clear hx hA hQ hqb hN HU
      have fin : ∀ w3, Below wr.heap.size wr w3 → Below w.heap.size w w3 := fun w3 h3 => hbw.trans (h3.mono hbw.size)
      have hlive := hLv wr hbw
      clear hLv h18
      by_cases hj4 : j < 4
      · have hkj' := hkj hj4
        clear hkj
        cases t
        · have e : m1 = m2 := by simpa using HAP.out
          subst e
          clear HAP
          go_wp2_with (go_at_call 9; refine hlive.mono ?_; rintro e w3 ⟨rfl, hb3⟩)
          refine (Hid.out HPP w3 hb3).mono ?_
          rintro e w4 ⟨rfl, rfl⟩
          go_wp2_with fail
          refine (Hid.out HQ w3 hb3).mono ?_
          rintro e w4 ⟨rfl, rfl⟩
          go_wp2
          go_ret
          exact ⟨rfl, fin w3 hb3⟩
        · have e : m1 ≠ m2 := by simpa using HAP.out
          have e1 : ((m1 : Int) == (m2 : Int)) = false := by simp; omega
          have e2 : ((m1 : Int) != (m2 : Int)) = true := by simp; omega
          clear HAP
          go_wp2_with (go_at_call 9; refine hlive.mono ?_; rintro e w3 ⟨rfl, hb3⟩)
          refine (Hid.out HPP w3 hb3).mono ?_
          rintro e w4 ⟨rfl, rfl⟩
          go_wp2_with fail
          refine (Hid.out HQ w3 hb3).mono ?_
          rintro e w4 ⟨rfl, rfl⟩
          go_wp2
          go_ret
          exact ⟨rfl, fin w3 hb3⟩
      · clear hkj
        cases t
        · have e : m1 = m2 := by simpa using HAP.out
          subst e
          clear HAP
          go_wp2_with (go_at_call 9; refine hlive.mono ?_; rintro e w3 ⟨rfl, hb3⟩)
          refine (Hid.out HPP w3 hb3).mono ?_
          rintro e w4 ⟨rfl, rfl⟩
          go_wp2_with fail
          refine (Hid.out HQ w3 hb3).mono ?_
          rintro e w4 ⟨rfl, rfl⟩
          go_wp2
          go_ret
          exact ⟨rfl, fin w3 hb3⟩
        · have e : m1 ≠ m2 := by simpa using HAP.out
          have e1 : ((m1 : Int) == (m2 : Int)) = false := by simp; omega
          have e2 : ((m1 : Int) != (m2 : Int)) = true := by simp; omega
          clear HAP
          go_wp2_with (go_at_call 9; refine hlive.mono ?_; rintro e w3 ⟨rfl, hb3⟩)
          refine (Hid.out HPP w3 hb3).mono ?_
          rintro e w4 ⟨rfl, rfl⟩
          go_wp2_with fail
          refine (Hid.out HQ w3 hb3).mono ?_
          rintro e w4 ⟨rfl, rfl⟩
          go_wp2
          go_ret
          exact ⟨rfl, fin w3 hb3⟩

theorem apart_nil (ad : Option Addr) (cap a : Nat) (x : Array Value) (w : World)
    (hLv : ∀ w1, Below w.heap.size w w1 → Calls Tryd.prog 9 #[] w1 fun e w' => e = .returned (.bool true) ∧ Below w1.heap.size w1 w') :
    Calls Tryd.prog 7 #[.slice ad 0 cap, .int .u16 a, .agg x] w fun e w' => e = .returned (.bool true) ∧ Below w.heap.size w w' := by
  obtain ⟨w1, hw1⟩ : ∃ w1, w1 = w.alloc (.cells x 41) := ⟨_, rfl⟩
  have hb1 : Below w.heap.size w w1 := by rw [hw1]; exact (Below.refl _ w).alloc (Nat.le_refl _) _
  have hl := hLv w1 hb1
  rw [hw1] at hl
  go_enter Tryd.func7, Tryd.ntmps7
  go_wp2_with (go_at_call 9; refine hl.mono ?_; rintro e w3 ⟨rfl, hb3⟩)
  go_ret
  rw [← hw1] at hb3
  exact ⟨rfl, hb1.trans (hb3.mono hb1.size)⟩

theorem walk_digestApart (v : Value) (bs : List Int) (a : Int) (u : Value) (b : Nat → Nat) (w : World) (hV : Vars w) (hv : Bs w v bs) (hby : ∀ x ∈ bs, 0 ≤ x ∧ x < 256) (hl : bs.length ≤ 140737488351232) (ha : (Lit.int .u16 a).wf = true)
    (hu : u = .agg #[.int .u8 (b 0), .int .u8 (b 1), .int .u8 (b 2), .int .u8 (b 3)] ∧ ∀ j, b j < 256) :
    Calls Tryd.prog 7 #[v, .int .u16 a, u] w fun e w' => e = .returned (.bool true) ∧ Below w.heap.size w w' := by
  obtain ⟨h0, h1⟩ := bounds_u16 ha
  obtain ⟨A, rfl⟩ := Int.eq_ofNat_of_zero_le h0
  obtain ⟨rfl, hb⟩ := hu
  obtain ⟨ep, hp⟩ := il_toNat bs hby
  generalize bs.map Int.toNat = p at ep hp
  subst ep
  have hLv : ∀ w1, Below w.heap.size w w1 → Calls Tryd.prog 9 #[] w1 fun e w' => e = .returned (.bool true) ∧ Below w1.heap.size w1 w' := fun w1 h => live_any w1 (hV.below h)
  rcases hv.cases with ⟨_, ad, c, rfl, _, _⟩ | ⟨hn, bb, off, c, rfl, hlc, hm, _, _⟩
  · exact apart_nil ad c A _ w hLv
  · have hp0 : 0 < p.length := by
      rcases Nat.eq_zero_or_pos p.length with h | h
      · exact absurd (List.eq_nil_of_length_eq_zero (by rw [il_length, h])) hn
      · exact h
    rw [il_length] at hlc hl hv ⊢
    exact apart_core p (A % p.length) (min 4 (p.length - A % p.length)) A b bb off c p.length w rfl hp0 hlc hm hl (by omega) rfl rfl hp hb hv hLv
      (fun w1 x l hb1 hx hy => by rw [← crcM_ref]; exact crc_any nibT l x w1 hx nibT_lt (hV.below hb1).nibs hy)
end Go.Proofs.YthfikoghbnicoabDoor
