/- Contract of the document's Padded. -/
import Derived.Test.YthfikoghbnicoabDoorL3
namespace Go.Proofs.YthfikoghbnicoabDoor
open Go.RowKit

/-- How long a slice is. -/
def slen : Value → Nat
  | .slice _ n _ => n
  | _ => 0

theorem fixB_getD (N : Nat) : ∀ j, j < 8 → (fixB N 8).getD j 0 = (((N / 2 ^ (56 - 8 * j)) % 256 : Nat) : Int) := by
  intro j hj
  match j, hj with
  | 0, _ => rfl
  | 1, _ => rfl
  | 2, _ => rfl
  | 3, _ => rfl
  | 4, _ => rfl
  | 5, _ => rfl
  | 6, _ => rfl
  | 7, _ => rfl

/-- 'append(v, y)' of one byte, v the call's own. -/
theorem wp_app1' {P : Program} {t e : TypeId} {w : World} {ops : Array Oper} {rest : List Oper} {o : Oper} {a : Act} {Q : Exit → Act → World → Prop} (B : ByteT P t e) {y : Int} (hgd : o.guard = none) (s x : Operand)
    (ho : o.op = .call { callee := .builtin .append, args := #[s, x], argTypes := #[t, t] })
    {base : Nat} {v : Value} {xs : List Int} (hs : a.eval s = v) (hown : OwnB w base e v xs)
    (hx : a.eval x = .slice (some ⟨w.heap.size, 0, none⟩) 1 1) (hlen : xs.length + 1 ≤ 140737488355328) (hbase : base ≤ w.heap.size)
    (h : ∀ v' w', OwnB w' base e v' (xs ++ [y]) → Below base w w' → wpList P ops Q rest (a.put o.dst v') w') :
    wpList P ops Q (o :: rest) a (w.alloc (.cells #[.int .u8 y] e)) := by
  obtain ⟨i0, hi, hz0, hz1, hz2⟩ := info_parts B.info
  refine wpList_append_own _ hgd s x t ho base e i0 (.int .u8 0) 1 1 B.ht hi hz0 hz1 hz2 rfl (by decide) v xs.length _ hs (World.ownsRow.alloc hown _) ⟨w.heap.size, 0, none⟩ 1 1 [.int .u8 y] hx rfl ?_ ?_ ?_ ?_ ?_ ?_
  · intro j u hj
    match j, hj with
    | 0, hj => simp at hj; subst hj; simp [Addr.add]
  · intro u hu; simp at hu; subst hu; rfl
  · unfold maxLen; omega
  · omega
  · simp; omega
  · intro v' w' h1 h2 _
    refine h v' w' (by unfold OwnB; simpa using h1) ?_
    exact ((Below.refl base w).alloc hbase _).grown h2 (by simp; omega) (own_block_ge hown)

theorem byte_cast (n j : Nat) : (((8 * n) / 2 ^ (56 - 8 * j) % 256 : Nat) : Int) = (n : Int) * 8 / 2 ^ (56 - 8 * j) % 256 := by
  generalize 56 - 8 * j = e
  rw [Nat.mul_comm, Int.natCast_emod, Int.natCast_ediv, Int.natCast_mul, Int.natCast_pow]
  rfl

theorem zer_spec (n z : Nat) (h : z ≤ zer n) : (n + 1 + z) % 64 = 56 ↔ z = zer n := by unfold zer at *; omega

set_option maxHeartbeats 1000000 in
theorem padded_any (v : Value) (bs : List Int) (w : World) (hv : Bs w v bs) (hl : bs.length ≤ 140737488351232) :
    Calls Tryd.prog 21 #[v] w fun e w' => ∃ v', e = .returned v' ∧ OwnB w' w.heap.size 5 v' (bs ++ padB bs.length) ∧ Below w.heap.size w w' := by
  obtain ⟨n, Hn⟩ : ∃ n, Hid (n = bs.length) := ⟨_, rfl⟩
  have HV : Hid (Bs w v bs) := hv
  obtain ⟨ad, cap, hve, hlc, hm, _, _⟩ := hv
  subst hve
  unfold maxLen at hm
  rw [← Hn.out] at hl hlc HV ⊢
  have hz63 : zer n ≤ 63 := by unfold zer; omega
  go_enter Tryd.func21, Tryd.ntmps21
  go_wp2_with (first
    | (at_builtin; refine wp_appS Tryd.bt rfl (.tmp 6) (.tmp 7) rfl rfl (own_lit w 5 w.heap.size [] #[] rfl (Nat.le_refl _) (by decide)) rfl (Bs.alloc HV.out _) (by rw [← Hn.out]; simp; omega) (by simp) ?_; intro x1 w1 hx1 hb1; simp only [List.nil_append] at hx1; have hbw1 : Below w.heap.size w w1 := ((Below.refl _ w).alloc (Nat.le_refl _) _).trans hb1)
    | (at_builtin; refine wp_app1' Tryd.bt (y := 128) rfl (.tmp 9) (.tmp 10) rfl rfl hx1 rfl (by rw [← Hn.out]; omega) hbw1.size ?_; intro x2 w2 hx2 hb2; have hbw2 : Below w.heap.size w w2 := hbw1.trans hb2; clear hx1 hb1 hb2))
  go_loopw [3] (fun x wr => ∃ z : Nat, z ≤ zer n ∧ OwnB wr w.heap.size 5 x (bs ++ (128 :: List.replicate z 0)) ∧ Below w.heap.size w wr) (fun x _ => n + 65 - slen x)
  case atStart => exact ⟨0, Nat.zero_le _, hx2, hbw2⟩
  case round =>
    clear hx2 hbw2
    obtain ⟨z, hz, hx, hbw⟩ := hrel
    obtain ⟨l, Hl⟩ : ∃ l, Hid (l = n + 1 + z) := ⟨_, rfl⟩
    have hll : (bs ++ (128 :: List.replicate z 0)).length = l := by rw [Hl.out, Hn.out]; simp; omega
    obtain ⟨g, capx, hxe, hg, hgl, hgm⟩ := own_shape hx (by intro e; have := congrArg List.length e; rw [hll, List.length_nil, Hl.out] at this; omega)
    rw [hll] at hxe hgl
    subst hxe
    unfold maxLen at hgm
    have hl2 : l ≤ 140737488351232 + 64 := by rw [Hl.out]; omega
    by_cases hzz : z = zer n
    · have hmod : ((l : Int) % 64 == 56) = true := by
        have := (zer_spec n z hz).2 hzz
        rw [← Hl.out] at this
        simp; omega
      have hmod' : ((l : Int) % 64 != 56) = false := by
        have := (zer_spec n z hz).2 hzz
        rw [← Hl.out] at this
        simp; omega
      subst hzz
      go_wp2
      clear hmod hmod'
      obtain ⟨A, HA⟩ : ∃ A : List Int, Hid (A = bs ++ 128 :: List.replicate (zer n) 0) := ⟨bs ++ 128 :: List.replicate (zer n) 0, Eq.refl (bs ++ 128 :: List.replicate (zer n) 0)⟩
      rw [← HA.out] at hx hll
      go_loopw [3, 5] (fun x i wr => ∃ j : Nat, j ≤ 8 ∧ i = .int .u64 j ∧ OwnB wr w.heap.size 5 x (A ++ (fixB (8 * n) 8).take j) ∧ Below w.heap.size w wr) (fun _ i _ => 8 - (intOf i).toNat)
      case atStart => exact ⟨0, Nat.zero_le _, rfl, by simpa using hx, hbw⟩
      case round =>
        clear hx hbw
        obtain ⟨j, hj, rfl, hx, hbw⟩ := hrel
        by_cases hj8 : j < 8
        · have hlx : (A ++ (fixB (8 * n) 8).take j).length = l + j := by rw [List.length_append, hll, List.length_take, fixB_length]; omega
          have hs0 : (0 : Int) ≤ 56 - 8 * (j : Int) := by omega
          have HF : Hid (A ++ (fixB (8 * n) 8).take (j + 1) = A ++ (fixB (8 * n) 8).take j ++ [(n : Int) * 8 / 2 ^ (56 - 8 * j) % 256]) := by
            show _ = _
            rw [take_snoc _ j (by rw [fixB_length]; exact hj8), ← List.append_assoc, fixB_getD _ j hj8, byte_cast]
          go_wp2_with (at_builtin; refine wp_app1' Tryd.bt (y := (n : Int) * 8 / 2 ^ (56 - 8 * j) % 256) rfl (.tmp 27) (.tmp 34) rfl rfl hx rfl (by rw [hlx]; omega) hbw.size ?_; intro x3 w3 hx3 hb3; have hbw3 : Below w.heap.size w w3 := hbw.trans hb3; clear hb3)
          go_roundw
          case rel => exact ⟨j + 1, by omega, by go_num, by rw [HF.out]; exact hx3, hbw3⟩
          case measure => simp [intOf]; omega
        · have hj' : j = 8 := by omega
          subst hj'
          go_wp2
          go_ret
          refine ⟨_, rfl, ?_, hbw⟩
          rw [HA.out, List.take_of_length_le (by rw [fixB_length]; decide), List.append_assoc] at hx
          exact hx
    · have hmod : ((l : Int) % 64 == 56) = false := by
        have h1 : ¬ l % 64 = 56 := by rw [Hl.out]; exact fun h => hzz ((zer_spec n z hz).1 h)
        simp; omega
      have hmod' : ((l : Int) % 64 != 56) = true := by
        have h1 : ¬ l % 64 = 56 := by rw [Hl.out]; exact fun h => hzz ((zer_spec n z hz).1 h)
        simp; omega
      go_wp2_with (at_builtin; refine wp_app1' Tryd.bt (y := 0) rfl (.tmp 16) (.tmp 17) rfl rfl hx rfl (by rw [hll]; omega) hbw.size ?_; intro x3 w3 hx3 hb3; have hbw3 : Below w.heap.size w w3 := hbw.trans hb3; clear hb3)
      go_roundw
      case rel =>
        refine ⟨z + 1, by omega, ?_, hbw3⟩
        have e : bs ++ (128 :: List.replicate z 0) ++ [0] = bs ++ (128 :: List.replicate (z + 1) 0) := by
          rw [List.append_assoc, List.cons_append, List.replicate_succ']
        rw [← e]
        exact hx3
      case measure =>
        have hs3 : slen x3 = l + 1 := by
          obtain ⟨g3, c3, e3, _⟩ := own_shape hx3 (by simp)
          rw [e3]
          show ((bs ++ (128 :: List.replicate z 0)) ++ [0]).length = _
          rw [List.length_append, hll]
          rfl
        rw [hs3]
        show n + 65 - (l + 1) < n + 65 - l
        rw [Hl.out]
        omega
end Go.Proofs.YthfikoghbnicoabDoor
