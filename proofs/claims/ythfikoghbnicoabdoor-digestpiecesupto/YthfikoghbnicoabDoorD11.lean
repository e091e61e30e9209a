/- Contracts of CrcMore and Crc. -/
import Derived.Test.YthfikoghbnicoabDoorD2
namespace Go.Proofs.YthfikoghbnicoabDoor
open Go.RowKit

theorem xor_u32 (a b : Nat) (ha : a < 4294967296) (hb : b < 4294967296) : bits .xor .u32 (a : Int) (b : Int) = ((a ^^^ b : Nat) : Int) := by
  have hx : a ^^^ b < 2 ^ 32 := Nat.xor_lt_two_pow (by omega) (by omega)
  show IntKind.u32.wrap ((BitVec.ofInt 32 (a : Int) ^^^ BitVec.ofInt 32 (b : Int)).toNat : Int) = _
  have e1 : BitVec.ofInt 32 (a : Int) = BitVec.ofNat 32 a := by simp
  have e2 : BitVec.ofInt 32 (b : Int) = BitVec.ofNat 32 b := by simp
  rw [e1, e2, BitVec.toNat_xor, BitVec.toNat_ofNat, BitVec.toNat_ofNat, Nat.mod_eq_of_lt (by omega), Nat.mod_eq_of_lt (by omega), IntKind.wrap_u32]
  omega

theorem xor_lt (a b : Nat) (ha : a < 4294967296) (hb : b < 4294967296) : a ^^^ b < 4294967296 := Nat.xor_lt_two_pow (n := 32) ha hb

/-- Four steps at once. -/
def nibN (T : Nat → Nat) (r : Nat) : Nat := (r / 16) ^^^ T (r % 16)
/-- One byte. -/
def crcB (T : Nat → Nat) (r x : Nat) : Nat := nibN T (nibN T (r ^^^ x))
/-- A text, from a sum on. -/
def crcM (T : Nat → Nat) (sum : Nat) (p : List Nat) : Nat := 4294967295 ^^^ p.foldl (crcB T) (4294967295 ^^^ sum)

/-- The nibbles lie in the second variable. -/
def NibsAt (w : World) (T : Nat → Nat) : Prop := ∀ k, k < 16 → w.cell? ⟨1, k, none⟩ = some (.int .u32 (T k))
theorem NibsAt.below {w w' : World} {T : Nat → Nat} (h : NibsAt w T) (hb : Below w.heap.size w w') : NibsAt w' T := fun k hk => (hb.cell (World.block_lt_of_cell? _ _ (h k hk))).trans (h k hk)

theorem nibN_lt (T : Nat → Nat) (hT : ∀ k, T k < 4294967296) (r : Nat) (hr : r < 4294967296) : nibN T r < 4294967296 := xor_lt _ _ (by omega) (hT _)
theorem crcB_lt (T : Nat → Nat) (hT : ∀ k, T k < 4294967296) (r x : Nat) (hr : r < 4294967296) (hx : x < 256) : crcB T r x < 4294967296 := nibN_lt T hT _ (nibN_lt T hT _ (xor_lt _ _ hr (by omega)))

/-- The bytes of a text, as integers. -/
def il (p : List Nat) : List Int := p.map Int.ofNat
theorem il_length (p : List Nat) : (il p).length = p.length := by simp [il]
theorem il_getD (p : List Nat) (i : Nat) : (il p).getD i 0 = ((p.getD i 0 : Nat) : Int) := by
  simp only [il, List.getD_eq_getElem?_getD, List.getElem?_map]
  cases p[i]? <;> rfl
theorem getD_lt (p : List Nat) (h : ∀ x ∈ p, x < 256) (i : Nat) : p.getD i 0 < 256 := by
  rw [List.getD_eq_getElem?_getD]
  rcases h' : p[i]? with _ | y
  · decide
  · exact h y (List.mem_of_getElem? h')
theorem take_snocN (bs : List Nat) (k : Nat) (h : k < bs.length) : bs.take (k + 1) = bs.take k ++ [bs.getD k 0] := by
  rw [List.take_succ_eq_append_getElem h, List.getD_eq_getElem?_getD, List.getElem?_eq_getElem h]; rfl

set_option maxHeartbeats 1000000 in
theorem more_core (sum : Nat) (T : Nat → Nat) (p : List Nat) (ad : Option Addr) (bb off cap L : Nat) (w : World) (hs : sum < 4294967296) (hT : ∀ k, T k < 4294967296) (hL : p.length = L) (hlc : L ≤ cap) (hm : cap ≤ maxLen) (hN : NibsAt w T)
    (had : 0 < L → ad = some ⟨bb, off, none⟩) (hc : ∀ i, i < L → w.cell? ⟨bb, off + i, none⟩ = some (.int .u8 ((p.getD i 0 : Nat) : Int))) (hby : ∀ x ∈ p, x < 256) :
    Calls Tryd.prog 16 #[.int .u32 sum, .slice ad L cap] w fun e w' => e = .returned (.int .u32 (crcM T sum p)) ∧ w = w' := by
  unfold maxLen at hm
  have HC : Hid _ := hc
  have HN : Hid (NibsAt w T) := hN
  have HA : Hid _ := had
  have HB : Hid _ := hby
  have HT : Hid (∀ k, T k < 4294967296) := hT
  clear hc hby hN had hT
  have hx0 : bits .xor .u32 IntKind.u32.max (sum : Int) = ((4294967295 ^^^ sum : Nat) : Int) := xor_u32 4294967295 sum (by omega) hs
  go_enter Tryd.func16, Tryd.ntmps16
  go_wp2
  go_loopw [5, 12] (fun r i wr => ∃ (k R : Nat), k ≤ L ∧ i = .int .i64 k ∧ r = .int .u32 (R : Int) ∧ R < 4294967296 ∧ Hid (R = (p.take k).foldl (crcB T) (4294967295 ^^^ sum)) ∧ w = wr) (fun _ i _ => L - (intOf i).toNat)
  case atStart => exact ⟨0, 4294967295 ^^^ sum, Nat.zero_le _, rfl, by rw [← hx0], xor_lt _ _ (by omega) hs, rfl, rfl⟩
  case round =>
    clear hx0
    obtain ⟨k, R, hk, rfl, rfl, hR, HQ, rfl⟩ := hrel
    by_cases hlt : k < L
    · obtain ⟨x, HX⟩ : ∃ x, Hid (x = p.getD k 0) := ⟨_, rfl⟩
      have hadx : ad = some ⟨bb, off, none⟩ := HA.out (by omega)
      subst hadx
      have hcx : w.cell? ⟨bb, off + k, none⟩ = some (.int .u8 (x : Int)) := by rw [HX.out]; exact HC.out k hlt
      have hxb : x < 256 := by rw [HX.out]; exact getD_lt p HB.out k
      obtain ⟨R1, H1⟩ : ∃ R1, Hid (R1 = R ^^^ x) := ⟨_, rfl⟩
      have h1 : bits .xor .u32 (R : Int) (x : Int) = (R1 : Int) := by rw [H1.out]; exact xor_u32 _ _ hR (by omega)
      have l1 : R1 < 4294967296 := by rw [H1.out]; exact xor_lt _ _ hR (by omega)
      obtain ⟨R2, H2⟩ : ∃ R2, Hid (R2 = nibN T R1) := ⟨_, rfl⟩
      have c1 := HN.out (R1 % 16) (Nat.mod_lt _ (by decide))
      have h2 : bits .xor .u32 ((R1 : Int) / 16) (T (R1 % 16) : Int) = (R2 : Int) := by rw [H2.out]; exact xor_u32 (R1 / 16) _ (by omega) (HT.out _)
      have l2 : R2 < 4294967296 := by rw [H2.out]; exact nibN_lt T HT.out _ l1
      obtain ⟨R3, H3⟩ : ∃ R3, Hid (R3 = nibN T R2) := ⟨_, rfl⟩
      have c2 := HN.out (R2 % 16) (Nat.mod_lt _ (by decide))
      have h3 : bits .xor .u32 ((R2 : Int) / 16) (T (R2 % 16) : Int) = (R3 : Int) := by rw [H3.out]; exact xor_u32 (R2 / 16) _ (by omega) (HT.out _)
      have l3 : R3 < 4294967296 := by rw [H3.out]; exact nibN_lt T HT.out _ l2
      go_wp2
      go_roundw
      case rel =>
        refine ⟨k + 1, R3, by omega, by go_num, rfl, l3, ?_, trivial⟩
        show R3 = _
        rw [take_snocN p k (by omega), List.foldl_append, ← HQ.out, H3.out, H2.out, H1.out, HX.out]
        rfl
      case measure => simp [intOf]; omega
    · have hkL : k = L := by omega
      subst hkL
      have hz : bits .xor .u32 IntKind.u32.max (R : Int) = ((4294967295 ^^^ R : Nat) : Int) := xor_u32 4294967295 R (by omega) hR
      go_wp2
      go_ret
      refine ⟨?_, rfl⟩
      rw [crcM, HQ.out, List.take_of_length_le (by omega)]
      rfl

theorem more_any (sum : Nat) (T : Nat → Nat) (p : List Nat) (v : Value) (w : World) (hv : Bs w v (il p)) (hs : sum < 4294967296) (hT : ∀ k, T k < 4294967296) (hN : NibsAt w T) (hby : ∀ x ∈ p, x < 256) :
    Calls Tryd.prog 16 #[.int .u32 sum, v] w fun e w' => e = .returned (.int .u32 (crcM T sum p)) ∧ w = w' := by
  rcases hv.cases with ⟨hn, a, c, rfl, hc, _⟩ | ⟨_, b, off, c, rfl, hl, hm, _, hcell⟩
  · have hp : p = [] := List.eq_nil_of_length_eq_zero (by rw [← il_length, hn]; rfl)
    subst hp
    exact more_core sum T [] a 0 0 c 0 w hs hT rfl (Nat.zero_le _) hc hN (fun h => absurd h (by decide)) (fun i h => absurd h (by omega)) hby
  · exact more_core sum T p (some ⟨b, off, none⟩) b off c _ w hs hT (il_length p).symm hl hm hN (fun _ => rfl) (fun i hi => by rw [← il_getD]; exact hcell i hi) hby

theorem crc_any (T : Nat → Nat) (p : List Nat) (v : Value) (w : World) (hv : Bs w v (il p)) (hT : ∀ k, T k < 4294967296) (hN : NibsAt w T) (hby : ∀ x ∈ p, x < 256) :
    Calls Tryd.prog 18 #[v] w fun e w' => e = .returned (.int .u32 (crcM T 0 p)) ∧ w = w' := by
  go_enter Tryd.func18, Tryd.ntmps18
  go_wp2_with (go_at_call 16; refine (more_any 0 T p v _ hv (by decide) hT hN hby).mono ?_; rintro e w' ⟨rfl, rfl⟩)
  go_ret
  exact ⟨rfl, rfl⟩

/-- One step of the document's. -/
def bitN (r : Nat) : Nat := if r % 2 = 1 then (r / 2) ^^^ 2197175160 else r / 2
def bitsN : Nat → Nat → Nat
  | 0, r => r
  | k + 1, r => bitN (bitsN k r)
def refB (r x : Nat) : Nat := bitsN 8 (r ^^^ x)
def refM (sum : Nat) (p : List Nat) : Nat := 4294967295 ^^^ p.foldl refB (4294967295 ^^^ sum)
theorem bitN_lt (r : Nat) (hr : r < 4294967296) : bitN r < 4294967296 := by
  unfold bitN
  split
  · exact xor_lt _ _ (by omega) (by decide)
  · omega

set_option maxHeartbeats 1000000 in
theorem refmore_core (sum : Nat) (p : List Nat) (ad : Option Addr) (bb off cap L : Nat) (w : World) (hs : sum < 4294967296) (hL : p.length = L) (hlc : L ≤ cap) (hm : cap ≤ maxLen)
    (had : 0 < L → ad = some ⟨bb, off, none⟩) (hc : ∀ i, i < L → w.cell? ⟨bb, off + i, none⟩ = some (.int .u8 ((p.getD i 0 : Nat) : Int))) (hby : ∀ x ∈ p, x < 256) :
    Calls Tryd.prog 17 #[.int .u32 sum, .slice ad L cap] w fun e w' => e = .returned (.int .u32 (refM sum p)) ∧ w = w' := by
  unfold maxLen at hm
  have HC : Hid _ := hc
  have HA : Hid _ := had
  have HB : Hid _ := hby
  clear hc hby had
  have hx0 : bits .xor .u32 IntKind.u32.max (sum : Int) = ((4294967295 ^^^ sum : Nat) : Int) := xor_u32 4294967295 sum (by omega) hs
  go_enter Tryd.func17, Tryd.ntmps17
  go_wp2
  go_loopw [5, 6] (fun r i wr => ∃ (k R : Nat), k ≤ L ∧ i = .int .i64 k ∧ r = .int .u32 (R : Int) ∧ R < 4294967296 ∧ Hid (R = (p.take k).foldl refB (4294967295 ^^^ sum)) ∧ w = wr) (fun _ i _ => L - (intOf i).toNat)
  case atStart => exact ⟨0, 4294967295 ^^^ sum, Nat.zero_le _, rfl, by rw [← hx0], xor_lt _ _ (by omega) hs, rfl, rfl⟩
  case round =>
    clear hx0
    obtain ⟨k, R, hk, rfl, rfl, hR, HQ, rfl⟩ := hrel
    by_cases hlt : k < L
    · obtain ⟨x, HX⟩ : ∃ x, Hid (x = p.getD k 0) := ⟨_, rfl⟩
      have hadx : ad = some ⟨bb, off, none⟩ := HA.out (by omega)
      subst hadx
      have hcx : w.cell? ⟨bb, off + k, none⟩ = some (.int .u8 (x : Int)) := by rw [HX.out]; exact HC.out k hlt
      have hxb : x < 256 := by rw [HX.out]; exact getD_lt p HB.out k
      obtain ⟨R1, H1⟩ : ∃ R1, Hid (R1 = R ^^^ x) := ⟨_, rfl⟩
      have h1 : bits .xor .u32 (R : Int) (x : Int) = (R1 : Int) := by rw [H1.out]; exact xor_u32 _ _ hR (by omega)
      have l1 : R1 < 4294967296 := by rw [H1.out]; exact xor_lt _ _ hR (by omega)
      go_wp2
      go_loopw [5, 7] (fun r i wr => ∃ (j Q : Nat), j ≤ 8 ∧ i = .int .i64 j ∧ r = .int .u32 (Q : Int) ∧ Q < 4294967296 ∧ Hid (Q = bitsN j R1) ∧ w = wr) (fun _ i _ => 8 - (intOf i).toNat)
      case atStart => exact ⟨0, R1, Nat.zero_le _, rfl, rfl, l1, rfl, rfl⟩
      case round =>
        clear h1 hcx
        obtain ⟨j, Q, hj, rfl, rfl, hQ, HJ, rfl⟩ := hrel
        by_cases hj8 : j < 8
        · by_cases hodd : Q % 2 = 1
          · have hod : ((Q : Int) % 2 == 1) = true := by simp; omega
            obtain ⟨Q2, H2⟩ : ∃ Q2, Hid (Q2 = bitN Q) := ⟨_, rfl⟩
            have h2 : bits .xor .u32 ((Q : Int) / 2) 2197175160 = (Q2 : Int) := by rw [H2.out]; unfold bitN; rw [if_pos hodd]; exact xor_u32 (Q / 2) 2197175160 (by omega) (by decide)
            go_wp2
            go_roundw
            case rel => exact ⟨j + 1, Q2, by omega, by go_num, rfl, by rw [H2.out]; exact bitN_lt _ hQ, by show Q2 = _; rw [H2.out, HJ.out]; rfl, trivial⟩
            case measure => simp [intOf]; omega
          · have hod : ((Q : Int) % 2 == 1) = false := by simp; omega
            go_wp2
            go_roundw
            case rel => exact ⟨j + 1, Q / 2, by omega, by go_num, rfl, by omega, by show Q / 2 = bitN _; rw [← HJ.out]; unfold bitN; rw [if_neg hodd], trivial⟩
            case measure => simp [intOf]; omega
        · have hj' : j = 8 := by omega
          subst hj'
          go_wp2
          go_roundw
          case rel =>
            refine ⟨k + 1, Q, by omega, by go_num, rfl, hQ, ?_, trivial⟩
            show Q = _
            rw [take_snocN p k (by omega), List.foldl_append, ← HQ.out, HJ.out, H1.out, HX.out]
            rfl
          case measure => simp [intOf]; omega
    · have hkL : k = L := by omega
      subst hkL
      have hz : bits .xor .u32 IntKind.u32.max (R : Int) = ((4294967295 ^^^ R : Nat) : Int) := xor_u32 4294967295 R (by omega) hR
      go_wp2
      go_ret
      refine ⟨?_, rfl⟩
      rw [refM, HQ.out, List.take_of_length_le (by omega)]
      rfl

theorem refmore_any (sum : Nat) (p : List Nat) (v : Value) (w : World) (hv : Bs w v (il p)) (hs : sum < 4294967296) (hby : ∀ x ∈ p, x < 256) :
    Calls Tryd.prog 17 #[.int .u32 sum, v] w fun e w' => e = .returned (.int .u32 (refM sum p)) ∧ w = w' := by
  rcases hv.cases with ⟨hn, a, c, rfl, hc, _⟩ | ⟨_, b, off, c, rfl, hl, hm, _, hcell⟩
  · have hp : p = [] := List.eq_nil_of_length_eq_zero (by rw [← il_length, hn]; rfl)
    subst hp
    exact refmore_core sum [] a 0 0 c 0 w hs rfl (Nat.zero_le _) hc (fun h => absurd h (by decide)) (fun i h => absurd h (by omega)) hby
  · exact refmore_core sum p (some ⟨b, off, none⟩) b off c _ w hs (il_length p).symm hl hm (fun _ => rfl) (fun i hi => by rw [← il_getD]; exact hcell i hi) hby
end Go.Proofs.YthfikoghbnicoabDoor
