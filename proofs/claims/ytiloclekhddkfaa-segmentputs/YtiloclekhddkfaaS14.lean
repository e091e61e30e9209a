/- The program's putNums. -/
import Derived.Test.YtiloclekhddkfaaS13
import Derived.Test.YtiloclekhddkfaaBytes
namespace Go.Proofs.Ytiloclekhddkfaa
open Go.RowKit Go.Lib

/-- The bytes of numbers, one behind the other. -/
def nums (ns : List Int) : List Int := (ns.map (fun n => Oct.numB n.toNat)).flatten
theorem nums_snoc (ns : List Int) (k : Nat) (hk : k < ns.length) : nums (ns.take (k + 1)) = nums (ns.take k) ++ Oct.numB (ns.getD k 0).toNat := by
  unfold nums
  rw [take_snoc ns k hk, List.map_append, List.flatten_append]
  simp only [List.map_cons, List.map_nil, List.flatten_cons, List.flatten_nil, List.append_nil]
section
variable {w : World}
set_option maxHeartbeats 2000000 in
set_option maxRecDepth 100000 in
theorem putn_any {base : Nat} {v u : Value} {bs ns : List Int} (hO : OwnY w base v bs) (hbase : base ≤ w.heap.size) (hu : RdI w u ns) (hun : ∀ k, u.ownBlock = some k → k ∉ ob v) (hn : ∀ n ∈ ns, 0 ≤ n ∧ n ≤ 9007199254740991) (hlen : ∀ k, k ≤ ns.length → (bs ++ nums (ns.take k)).length ≤ 1000000) (hnl : ns.length ≤ 1000000) :
    Calls Try.prog 35 #[v, u] w fun e w' => ∃ v', e = .returned v' ∧ OwnY w' base v' (bs ++ nums ns) ∧ Chg (ob v) w w' ∧ (∀ k ∈ ob v', k ∈ ob v ∨ w.heap.size ≤ k) := by
  have HO := Hid.mk hO
  have HU := Hid.mk hu
  have Hun := Hid.mk hun
  have Hn := Hid.mk hn
  have Hlen := Hid.mk hlen
  obtain ⟨X, HX⟩ : ∃ X, Hid (ob v = X) := ⟨_, ⟨rfl⟩⟩
  rw [HX.out] at Hun ⊢
  obtain ⟨au, cu, rfl, hcu, _⟩ := hu.shape
  obtain ⟨m, Hm⟩ : ∃ m, Hid (ns.length = m) := ⟨_, ⟨rfl⟩⟩
  rw [Hm.out] at hnl hcu Hun HU ⊢
  obtain ⟨av, cv, rfl, _⟩ := hO.shape
  have HXs : Hid (∀ k ∈ ob (.slice av bs.length cv), k ∈ X ∨ w.heap.size ≤ k) := ⟨fun k hk => .inl (by rw [← HX.out]; exact hk)⟩
  obtain ⟨nb, Hnb⟩ : ∃ n, Hid (bs.length = n) := ⟨_, ⟨rfl⟩⟩
  rw [Hnb.out] at HO HXs ⊢
  clear hO hu hun hn hlen HX
  go_enter Try.func35, Try.ntmps35
  go_wp2_with fail
  go_loopg [0, 6, 7, 8, 11] m (fun gg s0 _ _ _ s11 wr => ∃ kk : Nat, kk ≤ m ∧ m - kk ≤ gg ∧ s11 = .int .i64 (kk : Int) ∧ Hid (OwnY wr base s0 (bs ++ nums (ns.take kk))) ∧ Hid (Chg X w wr) ∧ Hid (∀ k ∈ ob s0, k ∈ X ∨ w.heap.size ≤ k))
  case atStart => exact ⟨0, Nat.zero_le _, by omega, rfl, ⟨by simpa [nums] using HO.out⟩, ⟨Chg.refl _ _⟩, HXs⟩
  case round =>
    clear HO HXs
    obtain ⟨kk, hkk, hgg, rfl, HO, HG, HV⟩ := hrel
    obtain ⟨a0, c0, e0, _⟩ := HO.out.shape
    subst e0
    obtain ⟨n0, Hn0⟩ : ∃ n, Hid ((bs ++ nums (ns.take kk)).length = n) := ⟨_, ⟨rfl⟩⟩
    rw [Hn0.out] at HO HV ⊢
    by_cases hlt : kk < m
    · have hltz : (kk : Int) < (m : Int) := by omega
      have hkL : kk < ns.length := by rw [Hm.out]; exact hlt
      have hrd : RdI wr (.slice au m cu) ns := HU.out.far HG.out (fun _ k hk => Hun.out k hk)
      obtain ⟨b1, o1, c1, e1, _, hcell⟩ := hrd.at hkL
      rw [Hm.out] at e1
      simp at e1
      obtain ⟨rfl, rfl⟩ := e1
      have hx := hcell kk hkL
      have hxn := Hn.out _ (getD_mem hkL)
      have HS := Hid.mk (nums_snoc ns kk hkL)
      have hl2 := Hlen.out (kk + 1) (by omega)
      rw [HS.out] at hl2
      clear hcell hrd
      generalize ns.getD kk 0 = x at hx hxn HS hl2
      obtain ⟨y, rfl⟩ := Int.eq_ofNat_of_zero_le hxn.1
      have t := Oct.num_good y wr (by omega)
      obtain ⟨Y, HY⟩ : ∃ Y, Hid (Oct.numB y = Y) := ⟨_, ⟨rfl⟩⟩
      rw [HY.out] at t
      have eY : ((y : Nat) : Int).toNat = y := rfl
      rw [eY, HY.out] at HS hl2
      have hl3 : (bs ++ nums (ns.take kk)).length + Y.length ≤ 1000000000000 := by simp at hl2 ⊢; omega
      have hbw : base ≤ wr.heap.size := Nat.le_trans hbase HG.out.size
      clear hl2
      go_upto_region 5 with (go_at_call 52; refine t.mono ?_; rintro e w2 ⟨v2, rfl, hO2, hb2⟩)
      have HO2 : Hid (OwnY w2 base (.slice a0 n0 c0) (bs ++ nums (ns.take kk))) := ⟨own_far HO.out (Chg.ofBelow (X := []) hb2) (by simp)⟩
      have HR2 : Hid (RdY w2 v2 Y) := ⟨own_rd hO2⟩
      have HB2 := Hid.mk hb2
      have hb3 : base ≤ w2.heap.size := Nat.le_trans hbw hb2.size
      obtain ⟨a2, c2, e2, _⟩ := HR2.out.shape
      subst e2
      obtain ⟨nY, HnY⟩ : ∃ n, Hid (Y.length = n) := ⟨_, ⟨rfl⟩⟩
      rw [HnY.out] at HR2 ⊢
      clear hO2 hb2 t
      go_wp2_with (at_builtin; refine wp_appY rfl (.tmp 20) (.tmp 21) rfl rfl HO2.out rfl HR2.out hl3 hb3 ?_; intro v3 w3 hO3 hG3 hV3; replace hG3 : Chg (ob (.slice a0 n0 c0)) w2 w3 := hG3; replace hV3 : v3.ownBlock = Value.ownBlock (.slice a0 n0 c0) ∨ v3.ownBlock = some w2.heap.size := hV3)
      go_roundg (m - (kk + 1))
      case measure => omega
      case rel =>
        refine ⟨kk + 1, by omega, by omega, by go_num, ⟨by rw [HS.out, ← List.append_assoc]; exact hO3⟩, ⟨(HG.out.thenNew (Chg.ofBelow (X := []) HB2.out) (by simp)).thenNew hG3 (fun x hx => HV.out x hx)⟩, ⟨fun k hk => ?_⟩⟩
        rcases hV3 with q | q
        · exact HV.out k (mem_ob.2 (by rw [← q]; exact mem_ob.1 hk))
        · have e := mem_ob.1 hk
          rw [q] at e
          cases e
          exact .inr (Nat.le_trans HG.out.size HB2.out.size)
    · obtain rfl : m = kk := by omega
      have HT : Hid (ns.take m = ns) := ⟨List.take_of_length_le (by rw [Hm.out]; exact Nat.le_refl _)⟩
      rw [HT.out] at HO
      go_wp2_with fail
      go_ret
      exact ⟨_, rfl, HO.out, HG.out, HV.out⟩
end
end Go.Proofs.Ytiloclekhddkfaa
