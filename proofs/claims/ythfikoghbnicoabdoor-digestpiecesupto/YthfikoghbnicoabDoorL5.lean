/- The walk of DigestForks, from the contract of the document's sum. -/
import Derived.Test.YthfikoghbnicoabDoorL4
import Derived.Test.YthfikoghbnicoabDoorL2
namespace Go.Proofs.YthfikoghbnicoabDoor
open Go.RowKit

/-- The document's sum at a text. -/
def RefAt (w : World) : Prop := ∀ w1 x l, Below w.heap.size w w1 → Bs w1 x l → (∀ y ∈ l, 0 ≤ y ∧ y < 256) → l.length ≤ 140737488351232 →
  Calls Tryd.prog 11 #[x] w1 fun e w' => e = .returned (.agg (arr .u8 32 (outB (shaS KL SL l)))) ∧ Below w1.heap.size w1 w'

theorem build24g (a : Act) (w : World) (d : Nat) (ps : String) (af : Array Edge) : (execOp a.eval { dst := some d, op := Op.build 24 #[], type := 24, pos := ps, after := af, guard := none }).run Tryd.prog w = .ok (.value (.agg (arr .u8 32 (fun _ => 0)))) w := by kernel_rfl

theorem Hat.grown {w w' : World} {g g' : Nat} {s b : Nat → Int} {n : Int} (h : Hat w g s b n) (hg : w.grownBy w' (some g')) (hne : g ≠ g') : Hat w' g s b n := h.block (hg.block g h.lt (by simp; exact hne))

theorem sha_two (K S : Nat → Int) (a b : List Int) : (fin K (b.foldl (wstep K) (a.foldl (wstep K) (q00 S)))).s = shaS K S (a ++ b) := by unfold shaS; rw [List.foldl_append]

set_option maxHeartbeats 1000000 in
theorem forks_core (u v z : Value) (a b c : List Int) (w : World) (hV : Vars w) (hu : Bs w u a) (hv : Bs w v b) (hz : Bs w z c) (ha : ∀ x ∈ a, 0 ≤ x ∧ x < 256) (hb : ∀ x ∈ b, 0 ≤ x ∧ x < 256) (hc : ∀ x ∈ c, 0 ≤ x ∧ x < 256)
    (la : a.length ≤ 1048576) (lb : b.length ≤ 1048576) (lc : c.length ≤ 1048576) (hR : RefAt w) :
    Calls Tryd.prog 8 #[u, v, z] w fun e w' => e = .returned (.bool true) ∧ Below w.heap.size w w' := by
  have HV : Hid (Vars w) := hV
  have HU : Hid (Bs w u a) := hu
  have HVV : Hid (Bs w v b) := hv
  have HZ : Hid (Bs w z c) := hz
  have HA : Hid (∀ x ∈ a, 0 ≤ x ∧ x < 256) := ha
  have HB : Hid (∀ x ∈ b, 0 ≤ x ∧ x < 256) := hb
  have HC : Hid (∀ x ∈ c, 0 ≤ x ∧ x < 256) := hc
  have HR : Hid (RefAt w) := hR
  have hk2 := hV.keys.lt
  obtain ⟨f1, Hf1⟩ : ∃ f, Hid (f = outB (shaS KL SL (a ++ b))) := ⟨_, rfl⟩
  obtain ⟨f2, Hf2⟩ : ∃ f, Hid (f = outB (shaS KL SL (a ++ c))) := ⟨_, rfl⟩
  have hg1 := fun (w : World) (xs ys : Array Value) => guard24 w .eql (.tmp 30) (.tmp 36) xs ys
  have hg2 := fun (w : World) (xs ys : Array Value) => guard24 w .eql (.tmp 41) (.tmp 47) xs ys
  have hg3 := fun (w : World) (xs ys : Array Value) => guard24 w .eql (.tmp 68) (.tmp 69) xs ys
  have hs1 := fun (w : World) => same24 w f1
  have hs2 := fun (w : World) => same24 w f2
  have hs3 := fun (w : World) => same24 w (fun _ => 0)
  clear hV hu hv hz ha hb hc hR
  go_enter Tryd.func8, Tryd.ntmps8
  go_wp2_with (go_at_call 12; refine (new_any SL w HV.out.start).mono ?_; rintro e w1 ⟨rfl, hH1, hb1⟩)
  have hl1 := hH1.lt
  refine (write_any w.heap.size (q00 SL) KL a u w1 (Bs.below HU.out hb1) hH1 (Bs.off HU.out (Nat.le_refl _)) (by omega) (HV.out.below hb1).keys HA.out (q00_b SL) (by show 0 + a.length ≤ _; omega)).mono ?_
  rintro e w2 ⟨rfl, ⟨q2, HQ2', hH2, hqb2⟩, hgr2⟩
  have HQ2 : Hid (q2 = a.foldl (wstep KL) (q00 SL)) := HQ2'
  have hn2 : q2.n ≤ 1048576 := by rw [HQ2', foldl_n]; show 0 + a.length ≤ _; omega
  have hb2 : Below w.heap.size w w2 := below_of_grown hb1 hgr2 (Nat.le_refl _) (Nat.le_refl _)
  have hsz2 : w1.heap.size ≤ w2.heap.size := hgr2.size
  clear HQ2' hgr2 hH1
  have HH2 : Hid (Hat w2 w.heap.size q2.s q2.b q2.n) := hH2
  clear hH2
  go_wp2_with (go_at_call 19; refine (fork_any w.heap.size q2.s q2.b q2.n w2 HH2.out).mono ?_; rintro e w3 ⟨rfl, hF3, hb3⟩)
  have hsz3 : w2.heap.size < w3.heap.size := hF3.lt
  have hb3' : Below w.heap.size w w3 := hb2.trans (hb3.mono hb2.size)
  have HH3 : Hid (Hat w3 w.heap.size q2.s q2.b q2.n) := Hat.below HH2.out hb3
  have hgfh : w2.heap.size ≠ w.heap.size := by omega
  refine (write_any w2.heap.size q2 KL b v w3 (Bs.below HVV.out hb3') hF3 (Bs.off HVV.out hb2.size) (by omega) (HV.out.below hb3').keys HB.out hqb2 (by omega)).mono ?_
  rintro e w4 ⟨rfl, ⟨q4, HQ4', hH4, hqb4⟩, hgr4⟩
  have HQ4 : Hid (q4 = b.foldl (wstep KL) q2) := HQ4'
  have hn4 : q4.n ≤ 2097152 := by rw [HQ4', foldl_n]; omega
  have hb4 : Below w.heap.size w w4 := below_of_grown hb3' hgr4 hb2.size (Nat.le_refl _)
  have HH4 : Hid (Hat w4 w.heap.size q2.s q2.b q2.n) := Hat.grown HH3.out hgr4 (Ne.symm hgfh)
  have HF4 : Hid (Hat w4 w2.heap.size q4.s q4.b q4.n) := hH4
  clear HQ4' hH4 hgr4 hF3 HH2 HH3 hb3 hb3'
  go_wp2_with fail
  refine (write_any w.heap.size q2 KL c z w4 (Bs.below HZ.out hb4) HH4.out (Bs.off HZ.out (Nat.le_refl _)) (by omega) (HV.out.below hb4).keys HC.out hqb2 (by omega)).mono ?_
  rintro e w5 ⟨rfl, ⟨q5, HQ5', hH5, hqb5⟩, hgr5⟩
  have HQ5 : Hid (q5 = c.foldl (wstep KL) q2) := HQ5'
  have hn5 : q5.n ≤ 2097152 := by rw [HQ5', foldl_n]; omega
  have hb5 : Below w.heap.size w w5 := below_of_grown hb4 hgr5 (Nat.le_refl _) (Nat.le_refl _)
  have HF5 : Hid (Hat w5 w2.heap.size q4.s q4.b q4.n) := Hat.grown HF4.out hgr5 hgfh
  have HH5 : Hid (Hat w5 w.heap.size q5.s q5.b q5.n) := hH5
  have HE1 : Hid (outB (fin KL q4).s = f1) := by show _ = _; rw [Hf1.out, HQ4.out, HQ2.out, sha_two]
  have HE2 : Hid (outB (fin KL q5).s = f2) := by show _ = _; rw [Hf2.out, HQ5.out, HQ2.out, sha_two]
  clear HQ5' hH5 hgr5 HH4 HF4 HQ2 HQ4 HQ5 hb4
  go_wp2_with (go_at_call 9; refine (live_any w5 (HV.out.below hb5)).mono ?_; rintro e w6 ⟨rfl, hb6⟩)
  have hb6' : Below w.heap.size w w6 := hb5.trans (hb6.mono hb5.size)
  have HF6 : Hid (Hat w6 w2.heap.size q4.s q4.b q4.n) := Hat.below HF5.out hb6
  have HH6 : Hid (Hat w6 w.heap.size q5.s q5.b q5.n) := Hat.below HH5.out hb6
  clear HF5 HH5 hb5 hb6
  refine (sum_any w2.heap.size q4 KL w6 HF6.out (HV.out.below hb6').keys hqb4 (by omega)).mono ?_
  rw [HE1.out]
  rintro e w7 ⟨rfl, hb7⟩
  have hb7' : Below w.heap.size w w7 := hb6'.trans (hb7.mono hb6'.size)
  have HH7 : Hid (Hat w7 w.heap.size q5.s q5.b q5.n) := Hat.below HH6.out hb7
  clear HF6 HH6 hb6' hb7
  go_wp2_with (first
    | (refine wpList_unguard (by kernel_rfl) (wp_appS Tryd.bt rfl (.tmp 31) (.tmp 32) rfl rfl (own_lit w7 5 w7.heap.size [] #[] rfl (Nat.le_refl _) (by decide)) rfl ((Bs.below HU.out hb7').alloc _) (by simp; omega) (by simp) ?_)
       intro x1 wa hx1 hba
       have hba' : Below w7.heap.size w7 wa := ((Below.refl _ w7).alloc (Nat.le_refl _) _).trans hba
       have hbaw : Below w.heap.size w wa := hb7'.trans (hba'.mono hb7'.size))
    | (refine wpList_unguard (by kernel_rfl) (wp_appS Tryd.bt rfl (.tmp 33) (.tmp 34) rfl rfl hx1 rfl (Bs.below HVV.out hbaw) (by simp; omega) hba'.size ?_)
       intro x2 w8 hx2 hb8
       have hb8' : Below w7.heap.size w7 w8 := hba'.trans hb8
       have hb8w : Below w.heap.size w w8 := hb7'.trans (hb8'.mono hb7'.size)
       clear hx1))
  have HH8 : Hid (Hat w8 w.heap.size q5.s q5.b q5.n) := Hat.below HH7.out hb8'
  refine (HR.out w8 x2 (a ++ b) hb8w (by simpa using hx2.bs) (fun y hy => (List.mem_append.1 hy).elim (HA.out y) (HB.out y)) (by rw [List.length_append]; omega)).mono ?_
  rw [← Hf1.out]
  rintro e w9 ⟨rfl, hb9⟩
  have hb9' : Below w.heap.size w w9 := hb8w.trans (hb9.mono hb8w.size)
  have HH9 : Hid (Hat w9 w.heap.size q5.s q5.b q5.n) := Hat.below HH8.out hb9
  clear HH7 HH8 hb7' hb8' hb8w hb9 hx2 hb8 hba hba' hbaw
  go_wp2_with fail
  refine (sum_any w.heap.size q5 KL w9 HH9.out (HV.out.below hb9').keys hqb5 (by omega)).mono ?_
  rw [HE2.out]
  rintro e w10 ⟨rfl, hb10⟩
  have hb10' : Below w.heap.size w w10 := hb9'.trans (hb10.mono hb9'.size)
  clear HH9 hb9' hb10
  go_wp2_with (first
    | (refine wpList_unguard (by kernel_rfl) (wp_appS Tryd.bt rfl (.tmp 42) (.tmp 43) rfl rfl (own_lit w10 5 w10.heap.size [] #[] rfl (Nat.le_refl _) (by decide)) rfl ((Bs.below HU.out hb10').alloc _) (by simp; omega) (by simp) ?_)
       intro x3 wc hx3 hbc
       have hbc' : Below w10.heap.size w10 wc := ((Below.refl _ w10).alloc (Nat.le_refl _) _).trans hbc
       have hbcw : Below w.heap.size w wc := hb10'.trans (hbc'.mono hb10'.size))
    | (refine wpList_unguard (by kernel_rfl) (wp_appS Tryd.bt rfl (.tmp 44) (.tmp 45) rfl rfl hx3 rfl (Bs.below HZ.out hbcw) (by simp; omega) hbc'.size ?_)
       intro x4 w11 hx4 hb11
       have hb11w : Below w.heap.size w w11 := hbcw.trans (hb11.mono hb10'.size)
       clear hx3))
  refine (HR.out w11 x4 (a ++ c) hb11w (by simpa using hx4.bs) (fun y hy => (List.mem_append.1 hy).elim (HA.out y) (HC.out y)) (by rw [List.length_append]; omega)).mono ?_
  rw [← Hf2.out]
  rintro e w12 ⟨rfl, hb12⟩
  have hb12' : Below w.heap.size w w12 := hb11w.trans (hb12.mono hb11w.size)
  clear hb10' hbc hbc' hbcw hx4 hb11 hb11w hb12
  go_wp2_with (first
    | (go_at_call 13; refine (write_nil u w12).mono ?_; rintro e w13 ⟨rfl, rfl⟩)
    | (go_at_call 15; refine (len_nil w12).mono ?_; rintro e w13 ⟨rfl, rfl⟩)
    | (go_at_call 19; refine (fork_nil w12).mono ?_; rintro e w13 ⟨rfl, rfl⟩)
    | (go_at_call 14; refine (sum_nil w12).mono ?_; rintro e w13 ⟨rfl, hb13⟩; have hb13' := hb12'.trans (hb13.mono hb12'.size))
    | (refine wpList_unguard (by kernel_rfl) ?_; show wpList _ _ _ (({ dst := some 69, op := Op.build 24 #[], type := 24, pos := _, after := _, guard := none } : Oper) :: _) _ _; refine wpList_val rfl (build24g _ _ 69 _ _) ?_))
  go_ret
  exact ⟨rfl, hb13'⟩
end Go.Proofs.YthfikoghbnicoabDoor
