/- Numbers laid on a sheet. -/
import Derived.Test.YtdcmagdglmmdkaaN3
namespace Go.Proofs.Ytdcmagdglmmdkaa
open Go.RowKit
/-- A sheet in memory: its bytes, which are the call's own from block base on. -/
def Sheet (w : World) (sb base : Nat) (bs : List Int) : Prop := base ≤ sb ∧ ∃ a n c, w.heap[sb]? = some (.cells #[.slice a n c] 64 (0, 0)) ∧ OwnY w base (.slice a n c) bs
/-- Numbers' bytes. -/
def numsB (ns : List Nat) : List Int := ns.flatMap Oct.numB
theorem numsB_snoc (ns : List Nat) (n : Nat) : numsB (ns ++ [n]) = numsB ns ++ Oct.numB n := by simp [numsB]
theorem ty64 {w : World} {sb : Nat} {cs : Array Value} (h : w.heap[sb]? = some (.cells cs 64 (0, 0))) : Ty w 64 sb := ⟨cs, h⟩
theorem own_not {w : World} {base sb : Nat} {v : Value} {bs : List Int} {cs : Array Value} (h : OwnY w base v bs) (hs : w.heap[sb]? = some (.cells cs 64 (0, 0))) : sb ∉ ob v := fun hm => by
  have := own_ty h (mem_ob.1 hm)
  exact (Ty.ne this (ty64 hs) (by decide)) rfl
theorem own_ge {w : World} {base : Nat} {v : Value} {bs : List Int} (h : OwnY w base v bs) : ∀ x ∈ ob v, base ≤ x := fun x hx => (h.lt x (mem_ob.1 hx)).1
theorem numsB_len (ns : List Nat) (h : ∀ n ∈ ns, n ≤ 9007199254740991) : (numsB ns).length ≤ 8 * ns.length := by
  induction ns with
  | nil => simp [numsB]
  | cons n ns ih =>
    have h1 := ih (fun x hx => h x (by simp [hx]))
    have h2 := Oct.numB_len8 n (h n (by simp))
    have e : numsB (n :: ns) = Oct.numB n ++ numsB ns := by simp [numsB]
    rw [e, List.length_append, List.length_cons]
    omega
/-- What was there stays, but for the sheet and blocks of bytes. -/
def Kp (sb : Nat) (w w' : World) : Prop := w.heap.size ≤ w'.heap.size ∧ ∀ k, k < w.heap.size → k ≠ sb → ¬ Ty w 5 k → w'.heap[k]? = w.heap[k]?
theorem Kp.refl (sb : Nat) (w : World) : Kp sb w w := ⟨Nat.le_refl _, fun _ _ _ _ => rfl⟩
theorem Ty.eq {w w' : World} {e : TypeId} {k : Nat} (h : w'.heap[k]? = w.heap[k]?) (ht : Ty w' e k) : Ty w e k := by
  obtain ⟨cs, q⟩ := ht
  exact ⟨cs, h.symm.trans q⟩
theorem Kp.trans {sb : Nat} {w w1 w2 : World} (h : Kp sb w w1) (h2 : Kp sb w1 w2) : Kp sb w w2 :=
  ⟨Nat.le_trans h.1 h2.1, fun k hk hs ht => (h2.2 k (Nat.lt_of_lt_of_le hk h.1) hs (fun q => ht (Ty.eq (h.2 k hk hs ht) q))).trans (h.2 k hk hs ht)⟩
theorem Kp.ofBelow {sb : Nat} {w w' : World} (h : Below w.heap.size w w') : Kp sb w w' := ⟨h.size, fun k hk _ _ => h.block k hk⟩
theorem Kp.ofApp {sb base : Nat} {w w' : World} {v : Value} {bs : List Int} (ho : OwnY w base v bs) (h : Chg (ob v) w w') : Kp sb w w' := ⟨h.size, fun k hk _ ht => h.block k hk (fun hm => ht (own_ty ho (mem_ob.1 hm)))⟩
theorem Kp.ofSet {sb : Nat} {w : World} (u : Value) : Kp sb w (w.setCell ⟨sb, 0, none⟩ u) := ⟨by simp, fun k _ hs _ => heap_setCell_other _ ⟨sb, 0, none⟩ k _ hs⟩
section
variable {w : World}
set_option maxHeartbeats 4000000 in
set_option maxRecDepth 100000 in
theorem nums_any (ns : List Nat) (sb nb base nn : Nat) (bs : List Int) (hS : Sheet w sb base bs) (hnn : ns.length = nn) (hn4 : nn ≤ 1000) (hb : bs.length ≤ 1000000000) (hns : ∀ n ∈ ns, n ≤ 9007199254740991) (hrow : w.heap[nb]? = some (.cells (iv (ns.map (fun n : Nat => (n : Int)))).toArray 3 (0, 0))) :
    Calls Try.prog 28 #[.pointer (some ⟨sb, 0, none⟩), .slice (some ⟨nb, 0, none⟩) nn nn] w fun e w' => e = .returned (.tuple #[]) ∧ Sheet w' sb base (bs ++ numsB ns) ∧ Below base w w' ∧ Kp sb w w' := by
  obtain ⟨hsb, sa, sn, sc, hs0, hown0⟩ := hS
  have HNS : Hid (∀ n ∈ ns, n ≤ 9007199254740991) := ⟨hns⟩
  have HNN : Hid (ns.length = nn) := ⟨hnn⟩
  have Hsb : Hid (base ≤ sb) := ⟨hsb⟩
  have Hbl : Hid (bs.length ≤ 1000000000) := ⟨hb⟩
  have HR0 : Hid (w.heap[nb]? = some (.cells (iv (ns.map (fun n : Nat => (n : Int)))).toArray 3 (0, 0))) := ⟨hrow⟩
  have HS : Hid (Sheet w sb base (bs ++ numsB (ns.take 0))) := ⟨⟨hsb, sa, sn, sc, hs0, by simpa [numsB] using hown0⟩⟩
  have Hbw : Hid (base ≤ w.heap.size) := ⟨Nat.le_trans hsb (Nat.le_of_lt (Array.getElem?_eq_some_iff.1 hs0).1)⟩
  clear hs0 hown0 hns hnn hsb hb hrow
  go_enter Try.func28, Try.ntmps28
  go_wp2_with fail
  go_loopw [10] (fun i wr => ∃ k : Nat, k ≤ nn ∧ i = .int .i64 (k : Int) ∧ Hid (Sheet wr sb base (bs ++ numsB (ns.take k))) ∧ Hid (wr.heap[nb]? = some (.cells (iv (ns.map (fun n : Nat => (n : Int)))).toArray 3 (0, 0))) ∧ Hid (Below base w wr) ∧ Hid (Kp sb w wr)) (fun i _ => nn - (intOf i).toNat)
  case atStart => exact ⟨0, Nat.zero_le _, rfl, HS, HR0, ⟨Below.refl _ _⟩, ⟨Kp.refl _ _⟩⟩
  case round =>
    obtain ⟨k, hk, rfl, HSr, HRr, HBr, HKr⟩ := hrel
    by_cases hlt : k < nn
    · have hltI : (k : Int) < (nn : Int) := by omega
      have hkl : k < ns.length := by rw [HNN.out]; exact hlt
      obtain ⟨n, Hn⟩ : ∃ n, Hid (ns.getD k 0 = n) := ⟨_, ⟨rfl⟩⟩
      have hnm : n ≤ 9007199254740991 := by
        rw [← Hn.out]
        apply HNS.out
        rw [List.getD_eq_getElem?_getD, List.getElem?_eq_getElem hkl]
        exact List.getElem_mem _
      have hcn : wr.cell? ⟨nb, k, none⟩ = some (.int .i64 (n : Int)) := by
        rw [cell_of_row _ _ _ _ _ _ HRr.out, ← Hn.out]
        simp [iv, List.getD_eq_getElem?_getD, List.getElem?_eq_getElem hkl]
      have HTk : Hid (numsB (ns.take (k + 1)) = numsB (ns.take k) ++ Oct.numB n) := ⟨by
        rw [List.take_succ_eq_append_getElem hkl, numsB_snoc]
        congr 2
        rw [← Hn.out, List.getD_eq_getElem?_getD, List.getElem?_eq_getElem hkl]
        rfl⟩
      have Hlen : Hid ((bs ++ numsB (ns.take k)).length ≤ 1000008000) := ⟨by
        have h1 := numsB_len (ns.take k) (fun x hx => HNS.out x (List.mem_of_mem_take hx))
        have h2 := Hbl.out
        rw [List.length_take] at h1
        rw [List.length_append]
        omega⟩
      obtain ⟨_, va, vn, vc, hsr, hor⟩ := HSr.out
      have HSr0 : Hid (wr.heap[sb]? = some (.cells #[.slice va vn vc] 64 (0, 0))) := ⟨hsr⟩
      have HOr : Hid (OwnY wr base (.slice va vn vc) (bs ++ numsB (ns.take k))) := ⟨hor⟩
      clear hsr hor HSr
      have tn := Oct.num_good n wr hnm
      go_upto_region 4 with (go_at_call 50; refine tn.mono ?_; rintro e w1 ⟨v1, rfl, hO1, hb1⟩; clear tn)
      have HB1 : Hid (Below wr.heap.size wr w1) := ⟨hb1⟩
      have HO1 : Hid (OwnY w1 wr.heap.size v1 (Oct.numB n)) := ⟨hO1⟩
      clear hb1 hO1
      have HS1 : Hid (w1.heap[sb]? = some (.cells #[.slice va vn vc] 64 (0, 0))) := ⟨(HB1.out.block sb (Array.getElem?_eq_some_iff.1 HSr0.out).1).trans HSr0.out⟩
      have HR1 : Hid (w1.heap[nb]? = some (.cells (iv (ns.map (fun n : Nat => (n : Int)))).toArray 3 (0, 0))) := ⟨(HB1.out.block nb (Array.getElem?_eq_some_iff.1 HRr.out).1).trans HRr.out⟩
      have HOv1 : Hid (OwnY w1 base (.slice va vn vc) (bs ++ numsB (ns.take k))) := ⟨Oct.OwnB.below HOr.out HB1.out⟩
      have hc1 : w1.cell? ⟨sb, 0, none⟩ = some (.slice va vn vc) := by rw [cell_of_row _ _ _ _ _ _ HS1.out]; rfl
      have hbw1 : base ≤ w1.heap.size := Nat.le_trans Hbw.out (Nat.le_trans HBr.out.size HB1.out.size)
      have hl4 : (bs ++ numsB (ns.take k)).length + (Oct.numB n).length ≤ 1000000000000 := by
        have h1 := Hlen.out
        have h2 := Oct.numB_len8 n hnm
        omega
      obtain ⟨X, HX⟩ : ∃ X, Hid (bs ++ numsB (ns.take k) ++ Oct.numB n = X) := ⟨_, ⟨rfl⟩⟩
      go_upto_region 5 with (at_builtin; refine wp_appY rfl (.tmp 23) (.tmp 24) rfl rfl HOv1.out rfl (OwnY.rd HO1.out) hl4 hbw1 ?_; intro v2 w2 hO2 hC2 hw2; rw [HX.out] at hO2; obtain ⟨a2, c2, rfl, _⟩ := OwnY.shape hO2; have HO2 : Hid (OwnY w2 base (.slice a2 X.length c2) X) := ⟨hO2⟩; have HC2 : Hid (Chg (ob (Value.slice va vn vc)) w1 w2) := ⟨hC2⟩; have HS2 : Hid (w2.heap[sb]? = some (.cells #[.slice va vn vc] 64 (0, 0))) := ⟨(HC2.out.block sb (Array.getElem?_eq_some_iff.1 HS1.out).1 (own_not HOv1.out HS1.out)).trans HS1.out⟩; have hc2 : w2.cell? ⟨sb, 0, none⟩ = some (.slice va vn vc) := (cell_of_row _ _ _ _ _ _ HS2.out).trans rfl; have hf2 : w2.frozen? ⟨sb, 0, none⟩ = false := frozen_of_row _ _ _ _ _ HS2.out; clear hO2 hC2 hw2)
      obtain ⟨w3, Hw3⟩ : ∃ x, Hid (w2.setCell ⟨sb, 0, none⟩ (.slice a2 X.length c2) = x) := ⟨_, ⟨rfl⟩⟩
      rw [Hw3.out]
      have HS3 : Hid (Sheet w3 sb base (bs ++ numsB (ns.take (k + 1)))) := ⟨by
        refine ⟨Hsb.out, a2, X.length, c2, ?_, ?_⟩
        · rw [← Hw3.out]; exact heap_setCell_same _ sb 0 _ 64 _ HS2.out
        · rw [HTk.out, ← List.append_assoc, HX.out, ← Hw3.out]
          exact own_far HO2.out ((Chg.refl [sb] w2).setCell (.inl (by simp)) _) (fun g hg hm => by
            simp at hm
            subst hm
            exact own_not HO2.out HS2.out (mem_ob.2 hg))⟩
      have HR3 : Hid (w3.heap[nb]? = some (.cells (iv (ns.map (fun n : Nat => (n : Int)))).toArray 3 (0, 0))) := ⟨by
        have hne : nb ∉ ob (Value.slice va vn vc) := fun hm => by
          have := own_ty HOv1.out (mem_ob.1 hm)
          exact (Ty.ne this ⟨_, HR1.out⟩ (by decide)) rfl
        have e2 := (HC2.out.block nb (Array.getElem?_eq_some_iff.1 HR1.out).1 hne).trans HR1.out
        rw [← Hw3.out, heap_setCell_other _ ⟨sb, 0, none⟩ nb _ (fun e => by
          have e' : nb = sb := e
          rw [e', HS2.out] at e2
          simp at e2)]
        exact e2⟩
      have HB3 : Hid (Below base w w3) := ⟨by
        rw [← Hw3.out]
        exact ((HBr.out.trans (HB1.out.mono (Nat.le_trans Hbw.out HBr.out.size))).trans (HC2.out.below hbw1 (own_ge HOv1.out))).setCell Hsb.out _⟩
      have HK3 : Hid (Kp sb w w3) := ⟨by rw [← Hw3.out]; exact ((HKr.out.trans (Kp.ofBelow HB1.out)).trans (Kp.ofApp HOv1.out HC2.out)).trans (Kp.ofSet _)⟩
      go_wp2_with fail
      go_roundw
      case rel => exact ⟨k + 1, by omega, by go_num, HS3, HR3, HB3, HK3⟩
      case measure => simp [intOf]; omega
    · have hltI : ¬ (k : Int) < (nn : Int) := by omega
      have HTa : Hid (ns.take k = ns) := ⟨List.take_of_length_le (by rw [HNN.out]; omega)⟩
      rw [HTa.out] at HSr
      go_wp2_with fail
      go_end0
      exact ⟨rfl, HSr.out, HBr.out, HKr.out⟩
end
end Go.Proofs.Ytdcmagdglmmdkaa
