/- The walk of DigestJoins. -/
import Derived.Test.YthfikoghbnicoabDoorL1
namespace Go.Proofs.YthfikoghbnicoabDoor
open Go.RowKit

/-- An operation whose guard says yes is carried out as if it had none. -/
theorem wpList_unguard {P : Program} {ops : Array Oper} {Q : Exit → Act → World → Prop} {a : Act} {w : World} {rest : List Oper} {o : Oper}
    (hw : Region.wanted o (yielded ops a.tmps) = true) (h : wpList P ops Q ({ o with guard := none } :: rest) a w) : wpList P ops Q (o :: rest) a w := by
  unfold wpList at h ⊢
  rw [if_pos hw]
  rw [if_pos (by simp [Region.wanted])] at h
  obtain ⟨dst, op, ty, pos, after, guard⟩ := o
  exact h

theorem crcM_lt (T : Nat → Nat) (hT : ∀ k, T k < 4294967296) (sum : Nat) (p : List Nat) (hs : sum < 4294967296) (hby : ∀ x ∈ p, x < 256) : crcM T sum p < 4294967296 := by
  have : ∀ (p : List Nat) (r : Nat), r < 4294967296 → (∀ x ∈ p, x < 256) → p.foldl (crcB T) r < 4294967296 := by
    intro p
    induction p with
    | nil => intro r hr _; exact hr
    | cons x xs ih => intro r hr hb; exact ih _ (crcB_lt T hT r x hr (hb x (by simp))) (fun y hy => hb y (by simp [hy]))
  exact xor_lt _ _ (by decide) (this p _ (xor_lt _ _ (by decide) hs) hby)

theorem xor_back (a b : Nat) : a ^^^ (a ^^^ b) = b := by rw [← Nat.xor_assoc, Nat.xor_self, Nat.zero_xor]
theorem crcM_append (T : Nat → Nat) (sum : Nat) (p q : List Nat) : crcM T sum (p ++ q) = crcM T (crcM T sum p) q := by
  unfold crcM
  rw [List.foldl_append, xor_back]

theorem il_append (p q : List Nat) : il (p ++ q) = il p ++ il q := by simp [il]

set_option maxHeartbeats 1000000 in
theorem joins_core (m1 m2 : Nat) (u v : Value) (a b : List Int) (w : World) (hu : Bs w u a) (hv : Bs w v b) (hla : a.length ≤ 1048576) (hlb : b.length ≤ 1048576)
    (hL : Calls Tryd.prog 9 #[] w fun e w' => e = .returned (.bool true) ∧ Below w.heap.size w w')
    (h18 : ∀ w1 x, Below w.heap.size w w1 → Bs w1 x (a ++ b) → Calls Tryd.prog 18 #[x] w1 fun e w' => e = .returned (.int .u32 m2) ∧ w1 = w')
    (h18a : ∀ w1, Below w.heap.size w w1 → Calls Tryd.prog 18 #[u] w1 fun e w' => e = .returned (.int .u32 m1) ∧ w1 = w')
    (h16 : ∀ w1, Below w.heap.size w w1 → Calls Tryd.prog 16 #[.int .u32 m1, v] w1 fun e w' => e = .returned (.int .u32 m2) ∧ w1 = w') :
    Calls Tryd.prog 6 #[u, v] w fun e w' => e = .returned (.bool true) ∧ Below w.heap.size w w' := by
  have HU : Hid (Bs w u a) := hu
  have HV : Hid (Bs w v b) := hv
  clear hu hv
  go_enter Tryd.func6, Tryd.ntmps6
  go_wp2_with (first
    | (go_at_call 9; refine hL.mono ?_; rintro e w1 ⟨rfl, hb1⟩)
    | (refine wpList_unguard (by kernel_rfl) (wp_appS Tryd.bt rfl (.tmp 7) (.tmp 8) rfl rfl (own_lit w1 5 w.heap.size [] #[] rfl hb1.size (by decide)) rfl ((Bs.below HU.out hb1).alloc _) (by simp; omega) (by have := hb1.size; simp; omega) ?_)
       intro x1 w2 hx1 hb2
       have hbb2 : Below w.heap.size w w2 := (hb1.alloc hb1.size _).trans hb2)
    | (refine wpList_unguard (by kernel_rfl) (wp_appS Tryd.bt rfl (.tmp 9) (.tmp 10) rfl rfl hx1 rfl (Bs.below HV.out hbb2) (by simp; omega) hbb2.size ?_)
       intro x2 w3 hx2 hb3
       have hbb3 : Below w.heap.size w w3 := hbb2.trans hb3
       clear hx1))
  refine (h18 w3 x2 hbb3 (by simpa using hx2.bs)).mono ?_
  rintro e w4 ⟨rfl, rfl⟩
  go_wp2_with (first
    | (go_at_call 18; refine (h18a w3 hbb3).mono ?_; rintro e w4 ⟨rfl, rfl⟩)
    | (go_at_call 16; refine (h16 w3 hbb3).mono ?_; rintro e w4 ⟨rfl, rfl⟩))
  go_ret
  exact ⟨rfl, hbb3⟩

theorem walk_digestJoins (u : Value) (a : List Int) (v : Value) (b : List Int) (w : World) (hV : Vars w) (hu : Bs w u a) (hya : ∀ x ∈ a, 0 ≤ x ∧ x < 256) (hla : a.length ≤ 1048576) (hv : Bs w v b) (hyb : ∀ x ∈ b, 0 ≤ x ∧ x < 256) (hlb : b.length ≤ 1048576) :
    Calls Tryd.prog 6 #[u, v] w fun e w' => e = .returned (.bool true) ∧ Below w.heap.size w w' := by
  obtain ⟨ea, ha⟩ := il_toNat a hya
  obtain ⟨eb, hb⟩ := il_toNat b hyb
  generalize a.map Int.toNat = p at ea ha
  generalize b.map Int.toNat = q at eb hb
  subst ea
  subst eb
  refine joins_core (crcM nibT 0 p) (crcM nibT 0 (p ++ q)) u v _ _ w hu hv hla hlb (live_any w hV) (fun w1 x hb1 hx => ?_) (fun w1 hb1 => ?_) (fun w1 hb1 => ?_)
  · exact crc_any nibT (p ++ q) x w1 (by rw [il_append]; exact hx) nibT_lt (hV.below hb1).nibs (fun y hy => (List.mem_append.1 hy).elim (ha y) (hb y))
  · exact crc_any nibT p u w1 (hu.below hb1) nibT_lt (hV.below hb1).nibs ha
  · rw [crcM_append]
    exact more_any _ nibT q v w1 (hv.below hb1) (crcM_lt _ nibT_lt 0 p (by decide) ha) nibT_lt (hV.below hb1).nibs hb
end Go.Proofs.YthfikoghbnicoabDoor
