/- What the program's on tells: the places of the bits that are on, one behind the other. -/
import Derived.Test.YtiloclekhddkfabDoorB14
namespace Go.Proofs.YtiloclekhddkfabDoor
open Go.RowKit Go.Shelf Go.Sort
/-- What a round must keep: a block, and the table. -/
def Kc (c : Nat) (A B : World) : Prop := A.heap.size ≤ B.heap.size ∧ ∀ k, k = c ∨ k = 0 → k < A.heap.size → B.heap[k]? = A.heap[k]?
theorem Kc.trans {c : Nat} {A B C : World} (h : Kc c A B) (k : Kc c B C) : Kc c A C := ⟨Nat.le_trans h.1 k.1, fun j h1 h3 => (k.2 j h1 (Nat.lt_of_lt_of_le h3 h.1)).trans (h.2 j h1 h3)⟩
theorem Kc.refl (c : Nat) (A : World) : Kc c A A := ⟨Nat.le_refl _, fun _ _ _ => rfl⟩
theorem Kc.of {c : Nat} {X : List Nat} {A B : World} (h : Chg X A B) (hc : c ∉ X) (h0 : 0 ∉ X) : Kc c A B := ⟨h.size, fun k h1 h3 => h.block k h3 (fun hm => by rcases h1 with e | e <;> subst e; exact hc hm; exact h0 hm)⟩
theorem Kc.cell {c : Nat} {A B : World} (h : Kc c A B) {a : Addr} {v : Value} (ha : a.block = c ∨ a.block = 0) (hc : A.cell? a = some v) : B.cell? a = some v := by
  have := h.2 a.block ha (World.block_lt_of_cell? _ _ hc)
  exact (World.cell?_of_block this).trans hc
section
attribute [local go_sem] Oper.semAt_some
set_option maxHeartbeats 4000000 in
set_option maxRecDepth 100000 in
theorem on1_in {p c cap size : Nat} {ways : Int} {cs : List Nat} (l q : Nat) (J Jx : List {x : Nat // x < size} → World → Prop) (W : World)
    (hq : W.cell? ⟨q, 0, none⟩ = some (.pointer (some ⟨p, 0, none⟩))) (hF : FlAt W p c cap size ways cs) (hm : ∀ n ∈ cs, n < 18446744073709551616) (hl : cs.length ≤ 1024) (hV : Vars W) (hbd : ∀ x ∈ onFrom 0 cs, x < size)
    (hY : ∀ pre x W1, J pre W1 → pre.length < (onFrom 0 cs).length → YieldAt Fence.wide 8 Tryd.prog l #[.int .i64 (x.1 : Int)] W1 fun e W' =>
      (e = .returned (.bool true) ∧ J (pre ++ [x]) W' ∧ Kc c W1 W') ∨ (e = .returned (.bool false) ∧ Jx (pre ++ [x]) W'))
    (h0 : J [] W) :
    CallsIn Fence.wide 9 Tryd.prog 40 #[.func (.yield l) #[] #[], .pointer (some ⟨q, 0, none⟩)] W fun e W' => (∃ v, e = .returned v) ∧
      ((∃ ys : List {x : Nat // x < size}, ys.map (fun x => x.1) = onFrom 0 cs ∧ J ys W') ∨ (∃ pre, pre.map (fun x => x.1) <+: onFrom 0 cs ∧ Jx pre W')) := by
  have c2 := hF.c2
  obtain ⟨n, Hn⟩ : ∃ n, Hid (cs.length = n) := ⟨_, ⟨rfl⟩⟩
  have HF := Hid.mk hF
  have HV := Hid.mk hV
  have Hm := Hid.mk hm
  have HT0 : Hid (onFrom 0 (cs.drop 0) = onFrom 0 cs) := ⟨by simp⟩
  have Hdr : Hid (∀ i, i < n → onFrom i (cs.drop i) = (bitsOf (cs.getD i 0)).map (fun b => i * 64 + b) ++ onFrom (i + 1) (cs.drop (i + 1))) := ⟨fun i hi => onFrom_drop cs i (by rw [Hn.out]; exact hi)⟩
  have Hend : Hid (onFrom n (cs.drop n) = []) := ⟨by rw [← Hn.out, List.drop_length]; rfl⟩
  obtain ⟨T, HT⟩ : ∃ T, Hid (onFrom 0 cs = T) := ⟨_, ⟨rfl⟩⟩
  rw [HT.out] at HT0
  simp only [HT.out] at hbd hY ⊢
  rw [Hn.out] at c2 hl
  clear hF hV hm HT
  refine callsIn_of_wp Tryd.func40 rfl trivial ?_ rfl
  simp only [Tryd.ntmps40, List.size_toArray, List.length_cons, List.length_nil, Nat.reduceAdd, Nat.reduceSub, Array.replicate_succ, Array.replicate_zero, List.push_toArray, List.append_toArray, List.nil_append, List.cons_append]
  gi_wp2
  gi_loopw [10] (fun i wr => ∃ (k : Nat) (pre : List {x : Nat // x < size}), k ≤ n ∧ i = .int .i64 (k : Int) ∧ J pre wr ∧ Hid (pre.map (fun x => x.1) ++ onFrom k (cs.drop k) = T) ∧ Hid (Kc c W wr)) (fun i _ => n - (intOf i).toNat)
  case atStart => exact ⟨0, [], Nat.zero_le _, rfl, h0, ⟨by simpa using HT0.out⟩, ⟨Kc.refl _ _⟩⟩
  case round =>
    obtain ⟨k, pre0, hk, rfl, hJ0, HE0, HK0⟩ := hrel
    by_cases hlt : k < n
    · have hltz : (k : Int) < (n : Int) := by omega
      have hcell := HK0.out.cell (a := ⟨c, k, none⟩) (.inl rfl) (HF.out.cell (i := k) (by rw [Hn.out]; exact hlt))
      have Hdk := Hid.mk (Hdr.out k hlt)
      have Hm0 : cs.getD k 0 < 18446744073709551616 := getD_lt Hm.out k
      generalize cs.getD k 0 = m0 at hcell Hdk Hm0
      obtain ⟨R, HR⟩ : ∃ R, Hid (onFrom (k + 1) (cs.drop (k + 1)) = R) := ⟨_, ⟨rfl⟩⟩
      rw [HR.out] at Hdk
      rw [Hdk.out] at HE0
      gi_wp2
      gi_loopw [4] (fun s4 wr => ∃ (m : Nat) (pre : List {x : Nat // x < size}), m < 18446744073709551616 ∧ s4 = .int .u64 (m : Int) ∧ J pre wr ∧ Hid (pre.map (fun x => x.1) ++ ((bitsOf m).map (fun b => k * 64 + b) ++ R) = T) ∧ Hid (Kc c W wr)) (fun s4 _ => (intOf s4).toNat)
      case atStart => exact ⟨m0, pre0, Hm0, rfl, hJ0, HE0, HK0⟩
      case round =>
        obtain ⟨m, pre, hmb, rfl, hJs, HE, HK⟩ := hrel
        by_cases hz : m = 0
        · subst hz
          have HE2 : Hid (pre.map (fun x => x.1) ++ R = T) := ⟨by have := HE.out; rw [bitsOf_zero] at this; simpa using this⟩
          gi_wp2
          go_roundw
          case rel => exact ⟨k + 1, pre, by omega, by simp, hJs, ⟨by rw [HR.out]; exact HE2.out⟩, HK⟩
          case measure => simp [intOf]; omega
        · have hz0 : ((m : Int) != 0) = true := by simp; omega
          have Hst := Hid.mk (bitsOf_step m hz hmb)
          have htz := tz_any (w := wr) m hmb hz (fun j hj => HK.out.cell (a := ⟨0, j, none⟩) (.inr rfl) (HV.out j hj))
          have hkb : Lib.ctz 64 m < 64 := (mem_bitsOf.1 (by rw [Hst.out]; simp)).1
          generalize Lib.ctz 64 m = b at Hst htz hkb
          have Hlt := Hid.mk (and_pred_lt m hz)
          have hand : bits .and .u64 (m : Int) ((m - 1 : Nat) : Int) = ((m &&& (m - 1) : Nat) : Int) := bits_and_u64_nat m (m - 1) hmb (by omega)
          have hsub : (m : Int) - 1 = ((m - 1 : Nat) : Int) := by omega
          have hm1b : m - 1 < 18446744073709551616 := by omega
          generalize m &&& (m - 1) = m' at Hst Hlt hand
          generalize m - 1 = m1 at hand hsub hm1b
          have hm' : m' < 18446744073709551616 := Nat.lt_trans Hlt.out hmb
          have HE3 : Hid (pre.map (fun x => x.1) ++ ((k * 64 + b) :: ((bitsOf m').map (fun b => k * 64 + b) ++ R)) = T) := ⟨by have := HE.out; rw [Hst.out] at this; simpa using this⟩
          have hxs : k * 64 + b < size := hbd _ (by rw [← HE3.out]; simp)
          obtain ⟨X, HX⟩ : ∃ X : {x : Nat // x < size}, Hid (X.1 = k * 64 + b) := ⟨⟨k * 64 + b, hxs⟩, ⟨rfl⟩⟩
          obtain ⟨fn, tmps, assign, body, hy, hR⟩ := hY pre X wr hJs (by rw [← HE3.out]; simp)
          have HP : Hid ((pre ++ [X]).map (fun x => x.1) ++ ((bitsOf m').map (fun b => k * 64 + b) ++ R) = T) := ⟨by rw [← HE3.out, ← HX.out]; simp⟩
          rw [HX.out] at hy
          obtain ⟨P, HPe⟩ : ∃ P, Hid (k * 64 = P) := ⟨_, ⟨rfl⟩⟩
          have hP : (k : Int) * 64 = (P : Int) := by rw [← HPe.out]; simp
          have hPb : P ≤ 65536 := by rw [← HPe.out]; omega
          obtain ⟨r, Hr⟩ : ∃ r, Hid (k * 64 + b = r) := ⟨_, ⟨rfl⟩⟩
          have hr : (P : Int) + (b : Int) = (r : Int) := by rw [← Hr.out, ← HPe.out]; omega
          have hrb : r ≤ 70000 := by rw [← Hr.out, HPe.out]; omega
          rw [Hr.out] at hy
          gi_wp2_with (refine ⟨trivial, ?_⟩; gi_at_call 41; refine (callsIn_wide.2 htz).mono ?_; rintro e wx ⟨rfl, ex⟩; subst ex)
          refine hR.mono ?_
          rintro e W3 (⟨rfl, hJ3, hk3⟩ | ⟨rfl, hJx3⟩)
          · gi_wp2
            go_roundw
            case rel => exact ⟨m', pre ++ [X], hm', rfl, hJ3, HP, ⟨HK.out.trans hk3⟩⟩
            case measure => have := Hlt.out; simp [intOf]; omega
          · gi_wp2
            refine bodyPost_ret (results_none rfl _ _ _) rfl ?_
            exact ⟨⟨_, rfl⟩, .inr ⟨_, ⟨_, HP.out⟩, hJx3⟩⟩
    · obtain rfl : k = n := by omega
      gi_wp2
      go_end0
      exact ⟨⟨_, rfl⟩, .inl ⟨pre0, by have := HE0.out; rw [Hend.out, List.append_nil] at this; exact this, hJ0⟩⟩
theorem on_stops {w : World} {p c cap size : Nat} {ways : Int} {cs : List Nat} (q : Nat) (hq : w.cell? ⟨q, 0, none⟩ = some (.pointer (some ⟨p, 0, none⟩))) (hF : FlAt w p c cap size ways cs) (hm : ∀ n ∈ cs, n < 18446744073709551616) (hl : cs.length ≤ 1024) (hV : Vars w) (hbd : ∀ x ∈ onFrom 0 cs, x < size) :
    SeqStopsK Fence.wide 9 Tryd.prog 40 #[.pointer (some ⟨q, 0, none⟩)] (fun x : {x : Nat // x < size} => #[.int .i64 (x.1 : Int)]) (Kc c) (fun ys => ys.map (fun x => x.1) = onFrom 0 cs) (fun pre => pre.map (fun x => x.1) <+: onFrom 0 cs) (onFrom 0 cs).length w :=
  fun l J Jx W hW _ _ hY h0 =>
    have hc : Chg [] w W := Chg.ofBelow hW
    on1_in l q J Jx W ((hc.cell (a := ⟨q, 0, none⟩) (World.block_lt_of_cell? _ _ hq) (by simp)).trans hq) (hF.far hc (by simp) (by simp)) hm hl (vars_far hV hc (by simp)) hbd hY h0
theorem kc_put {c : Nat} {w : World} (hc : c < w.heap.size) (W : World) (l : Nat) (o o' : Obj) (hl : w.heap.size ≤ l) (h : W.heap[l]? = some o) (_ : o.isCells = false) (_ : o.isWalk = false) : Kc c W (W.putObj l o') := by
  have z := belowK_b (n₀ := c + 1) (by omega) W l o o' hl h ‹_› ‹_›
  exact ⟨z.size, fun k h1 _ => z.block k (by omega)⟩
end
end Go.Proofs.YtiloclekhddkfabDoor
