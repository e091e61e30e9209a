/- The walk of SlotSeen. -/
import Derived.Test.YtgjjjkokmgdmjaaDoorS20
import Derived.Test.YtgjjjkokmgdmjaaDoorS17
import Derived.BigRegion
namespace Go.Proofs.YtgjjjkokmgdmjaaDoor
open Go.RowKit
/-- Four bytes in memory. -/
def By4 (w : World) (q : Nat) (b : Nat → Nat) : Prop := w.heap[q]? = some (.cells #[.int .u8 (b 0 : Int), .int .u8 (b 1 : Int), .int .u8 (b 2 : Int), .int .u8 (b 3 : Int)] 42 (0, 0))
theorem By4.cell {w : World} {q : Nat} {b : Nat → Nat} (h : By4 w q b) (j : Nat) (hj : j < 4) : w.cell? ⟨q, j, none⟩ = some (.int .u8 (b j : Int)) := by
  rw [cell_of_row _ _ _ _ _ _ h]
  rcases (by omega : j = 0 ∨ j = 1 ∨ j = 2 ∨ j = 3) with rfl | rfl | rfl | rfl <;> rfl
theorem By4.below {w w' : World} {q : Nat} {b : Nat → Nat} (h : By4 w q b) (hb : Below w.heap.size w w') : By4 w' q b := (hb.block q (Array.getElem?_eq_some_iff.1 h).1).trans h
theorem xor_u8 (a b : Nat) (ha : a < 256) (hb : b < 256) : bits .xor .u8 (a : Int) (b : Int) = ((a ^^^ b : Nat) : Int) := by
  have hx : a ^^^ b < 2 ^ 8 := Nat.xor_lt_two_pow (by omega) (by omega)
  show IntKind.u8.wrap ((BitVec.ofInt 8 (a : Int) ^^^ BitVec.ofInt 8 (b : Int)).toNat : Int) = _
  have e1 : BitVec.ofInt 8 (a : Int) = BitVec.ofNat 8 a := by simp
  have e2 : BitVec.ofInt 8 (b : Int) = BitVec.ofNat 8 b := by simp
  rw [e1, e2, BitVec.toNat_xor, BitVec.toNat_ofNat, BitVec.toNat_ofNat, Nat.mod_eq_of_lt (by omega), Nat.mod_eq_of_lt (by omega), IntKind.wrap_u8]
  omega
theorem il_set (p : List Nat) (j y : Nat) : (Dg.il p).set j (y : Int) = Dg.il (p.set j y) := by simp [Dg.il, List.map_set]
theorem own_shape {w : World} {base : Nat} {v : Value} {xs : List Int} (h : OwnB w base v xs) (hne : 0 < xs.length) :
    ∃ g cap, v = .slice (some ⟨g, 0, none⟩) xs.length cap ∧ base ≤ g ∧ xs.length ≤ cap ∧ cap ≤ maxLen := by
  rcases h.2 with ⟨_, h0⟩ | ⟨g, cap, cur, rfl, hb, _, h1, h2, _⟩
  · omega
  · exact ⟨g, cap, rfl, hb, h1, h2⟩
theorem own_ty {w : World} {base g n cap : Nat} {xs : List Int} (h : OwnB w base (.slice (some ⟨g, 0, none⟩) n cap) xs) : ∃ cs, w.heap[g]? = some (.cells cs 5 (0, 0)) := by
  rcases h.2 with ⟨e, h0⟩ | ⟨g', cap', cur, e, hb, hh, _⟩
  · simp at e
  · simp only [Value.slice.injEq, Option.some.injEq, Addr.mk.injEq] at e
    obtain ⟨⟨rfl, _⟩, _⟩ := e
    exact ⟨cur, hh⟩
section
variable {w : World}
set_option maxHeartbeats 16000000 in
set_option maxRecDepth 100000 in
theorem seen_core (a b : List Int) (A k NN : Nat) (by' : Nat → Nat) (aa ab : Option Addr) (na nb ca cb : Nat) (hV : Vars w) (hxa : Oc.Bs w (.slice aa na ca) a) (hxb : Oc.Bs w (.slice ab nb cb) b) (hya : Dk.Byt a) (hyb : Dk.Byt b) (hna : a.length = na) (hnb : b.length = nb)
    (hA : A < 256) (hk : k = A % 116) (hN : NN = min 4 (116 - k)) (hby : ∀ j, by' j < 256) (hla : na ≤ 100) (hlb : nb ≤ 100) :
    Calls Tryd.prog 4 #[.slice aa na ca, .slice ab nb cb, .int .u8 (A : Int), .agg #[.int .u8 (by' 0 : Int), .int .u8 (by' 1 : Int), .int .u8 (by' 2 : Int), .int .u8 (by' 3 : Int)]] w fun e w' => e = .returned (.bool true) ∧ Below w.heap.size w w' := by
  have HV : Hid (Vars w) := ⟨hV⟩
  have HXa : Hid (Oc.Bs w (.slice aa na ca) a) := ⟨hxa⟩
  have HXb : Hid (Oc.Bs w (.slice ab nb cb) b) := ⟨hxb⟩
  have HYa : Hid (Dk.Byt a) := ⟨hya⟩
  have HYb : Hid (Dk.Byt b) := ⟨hyb⟩
  have HLa : Hid (a.length = na ∧ a.length ≤ 100) := ⟨hna, by omega⟩
  have HLb : Hid (b.length = nb ∧ b.length ≤ 100) := ⟨hnb, by omega⟩
  have HBY : Hid (∀ j, by' j < 256) := ⟨hby⟩
  have hla' : ¬ (100 : Int) < (na : Int) := by omega
  have hlb' : ¬ (100 : Int) < (nb : Int) := by omega
  have hk0 : ((A : Int) % 116) = (k : Int) := by omega
  have hk116 : k < 116 := by omega
  have HN : Hid (NN = min 4 (116 - k)) := ⟨hN⟩
  have hNk : k + NN ≤ 116 := by omega
  have hN4 : NN ≤ 4 := by omega
  have hNE : NN = 4 ∨ k + NN = 116 := by omega
  have HNE : Hid (NN = 4 ∨ k + NN = 116) := ⟨hNE⟩
  clear hV hxa hxb hya hyb hby hna hnb hk hN hNE hla hlb
  obtain ⟨qb, Hqb⟩ : ∃ q, Hid (w.heap.size = q) := ⟨_, ⟨rfl⟩⟩
  obtain ⟨w1, Hw1⟩ : ∃ x, Hid (w.alloc (.cells #[.int .u8 (by' 0 : Int), .int .u8 (by' 1 : Int), .int .u8 (by' 2 : Int), .int .u8 (by' 3 : Int)] 42) = x) := ⟨_, ⟨rfl⟩⟩
  have HY1 : Hid (By4 w1 qb by') := ⟨by rw [← Hw1.out, ← Hqb.out]; exact heap_alloc_new w _⟩
  have HB1 : Hid (Below w.heap.size w w1) := ⟨by rw [← Hw1.out]; exact (Below.refl _ w).alloc (Nat.le_refl _) _⟩
  have t1 := Dk.newdisk_any 2 w1 (by decide) (by decide)
  go_enter Tryd.func4, Tryd.ntmps4
  go_upto_region 1 with fail
  rw [Hw1.out]
  first | rw [Hqb.out] | skip
  go_upto_region 4 with (go_at_call 6; refine t1.mono ?_; rintro e w2 hN; obtain ⟨p, g, bm, rfl, hA2, hb2⟩ := hN; clear t1)
  have HB12 : Hid (Below w1.heap.size w1 w2) := ⟨hb2⟩
  have HA2 : Hid (Dk.At w2 p g bm w1.heap.size (Dk.newD 2)) := ⟨hA2⟩
  have HB2 : Hid (Below w.heap.size w w2) := ⟨HB1.out.trans (HB12.out.mono HB1.out.size)⟩
  have t2 := open_good (bs := 0) hA2 (opn_new 2 0 (by decide))
  clear hA2 hb2
  go_upto_region 7 with (go_at_call 7; refine t2.mono ?_; rintro e w3 ⟨rfl, hC3, hb3⟩; clear t2)
  obtain ⟨q, Hq⟩ : ∃ q, Hid (w2.heap.size = q) := ⟨_, ⟨rfl⟩⟩
  rw [Hq.out] at hC3 ⊢
  have HB23 : Hid (Below w2.heap.size w2 w3) := ⟨hb3⟩
  have HC3 : Hid (CellAt w3 q p ((0 : Nat) : Int) (Dk.newD 2).life) := ⟨hC3⟩
  have HB3 : Hid (Below w.heap.size w w3) := ⟨HB2.out.trans (HB23.out.mono HB2.out.size)⟩
  have HA3 : Hid (Dk.At w3 p g bm w1.heap.size (Dk.newD 2)) := ⟨HA2.out.below HB23.out⟩
  clear hC3 hb3
  obtain ⟨D1, HD1e⟩ : ∃ D, Hid (sn1 a = D) := ⟨_, ⟨rfl⟩⟩
  obtain ⟨D2, HD2e⟩ : ∃ D, Hid (sn2 a b = D) := ⟨_, ⟨rfl⟩⟩
  have HD1 : Hid (stE (Dk.newD 2) 0 a = 0 ∧ Fine D1 2 ∧ D1.life = 0 ∧ sc0 D1 0 = Sl.sealB crB 1 a ∧ sc0 D1 1 = Dk.zp) := ⟨by rw [← HD1e.out]; exact sn1_ok HLa.out.2⟩
  have HD2 : Hid (stE D1 0 b = 0 ∧ Fine D2 2 ∧ D2.life = 0 ∧ sc0 D2 0 = Sl.sealB crB 1 a ∧ sc0 D2 1 = Sl.sealB crB 2 b) := ⟨by rw [← HD1e.out, ← HD2e.out]; exact sn2_ok HLa.out.2 HLb.out.2⟩
  have t3 := set_any HA3.out HC3.out rfl (by decide) (Dg.NibsAt.below HV.out HB3.out) _ a (Oc.Bs.below HXa.out HB3.out) HYa.out
  rw [HD1.out.1, show stD (Dk.newD 2) 0 a = D1 from HD1e.out] at t3
  have hBP : Hid (w1.heap.size ≤ p ∧ w1.heap.size ≤ g ∧ w1.heap.size ≤ bm) := ⟨At.bp HA3.out⟩
  go_upto_region 11 with (first
    | (go_at_call 8; refine t3.mono ?_; rintro e w4 ⟨rfl, hA4, hc4⟩; clear t3; have HA4 : Hid (Dk.At w4 p g bm w1.heap.size D1) := ⟨hA4⟩; have HB34 : Hid (Below w1.heap.size w3 w4) := ⟨hc4.below (Nat.le_trans HB12.out.size HB23.out.size) (fun x hx => by have h1 := hBP.out; simp at hx; omega)⟩; have HB4 : Hid (Below w.heap.size w w4) := ⟨HB3.out.trans (HB34.out.mono HB1.out.size)⟩; have HC4 : Hid (CellAt w4 q p ((0 : Nat) : Int) D1.life) := ⟨by rw [HD1.out.2.2.1]; exact CellAt.chg HC3.out HA3.out hc4⟩; clear hA4 hc4; have t4 := set_any HA4.out HC4.out HD1.out.2.1.down (by rw [HD1.out.2.1.len]; decide) (Dg.NibsAt.below HV.out HB4.out) _ b (Oc.Bs.below HXb.out HB4.out) HYb.out; rw [HD2.out.1, show stD D1 0 b = D2 by rw [← HD1e.out]; exact HD2e.out] at t4)
    | (go_at_call 8; refine t4.mono ?_; rintro e w5 ⟨rfl, hA5, hc5⟩; clear t4; have HA5 : Hid (Dk.At w5 p g bm w1.heap.size D2) := ⟨hA5⟩; have HB45 : Hid (Below w1.heap.size w4 w5) := ⟨hc5.below (Nat.le_trans (Nat.le_trans HB12.out.size HB23.out.size) HB34.out.size) (fun x hx => by have h1 := hBP.out; simp at hx; omega)⟩; have HB5 : Hid (Below w.heap.size w w5) := ⟨HB4.out.trans (HB45.out.mono HB1.out.size)⟩; have HC5 : Hid (CellAt w5 q p ((0 : Nat) : Int) D2.life) := ⟨by rw [HD2.out.2.2.1, ← HD1.out.2.2.1]; exact CellAt.chg HC4.out HA4.out hc5⟩; clear hA5 hc5))
  have HB15 : Hid (Below w1.heap.size w1 w5) := ⟨HB12.out.trans ((HB23.out.mono HB12.out.size).trans (HB34.out.trans HB45.out))⟩
  have t5 := Dk.read_any HA5.out 1
  have HrE : Hid (Dk.rdE D2 1 = 0) := ⟨rdE_at HD2.out.2.1.down (i := 1) rfl (by rw [HD2.out.2.1.len]; decide)⟩
  have HrB : Hid (Dk.rdB D2 1 = Sl.sealB crB 2 b) := ⟨(rdB_at HD2.out.2.1.down (i := 1) rfl (by rw [HD2.out.2.1.len]; decide)).trans HD2.out.2.2.2.2⟩
  have HsL : Hid ((Sl.sealB crB 2 b).length = 128) := ⟨Sl.sealB_len (by have := HLb.out.2; omega)⟩
  obtain ⟨P, HP⟩ : ∃ P : List Nat, Hid (Dg.il P = Sl.sealB crB 2 b) := ⟨(Sl.sealB crB 2 b).map Int.toNat, ⟨il_nat (byt_seal HLb.out.2 HYb.out)⟩⟩
  have HPl : Hid (P.length = 128) := ⟨by rw [← Dg.il_length, HP.out]; exact HsL.out⟩
  have HPb : Hid (∀ x ∈ P, x < 256) := ⟨fun x hx => by
    have h1 : (x : Int) ∈ Dg.il P := List.mem_map.2 ⟨x, hx, rfl⟩
    rw [HP.out] at h1
    have := byt_seal HLb.out.2 HYb.out _ h1
    omega⟩
  rw [HrE.out, HrB.out, ← HP.out] at t5
  go_upto_region 14 with (go_at_call 14; refine t5.mono ?_; rintro e wz ⟨v5, rfl, hO5, hb5⟩; clear t5; obtain ⟨gr, cr, rfl, hgr, hlc, hmc⟩ := own_shape hO5 (by rw [Dg.il_length, HPl.out]; decide); rw [Dg.il_length, HPl.out])
  unfold maxLen at hmc
  have HO5 : Hid (OwnB wz w5.heap.size (.slice (some ⟨gr, 0, none⟩) 128 cr) (Dg.il (Dg.tw P k by' 0))) := ⟨by rw [Dg.il_length, HPl.out] at hO5; exact hO5⟩
  have HB5z : Hid (Below w5.heap.size w5 wz) := ⟨hb5⟩
  have Hgr : Hid (w5.heap.size ≤ gr) := ⟨hgr⟩
  rw [Dg.il_length, HPl.out] at hlc
  have HBz : Hid (Below w.heap.size w wz) := ⟨HB5.out.trans (HB5z.out.mono HB5.out.size)⟩
  have HYz : Hid (By4 wz qb by') := ⟨(HY1.out.below HB15.out).below HB5z.out⟩
  have HAz : Hid (Dk.At wz p g bm w1.heap.size D2) := ⟨HA5.out.below HB5z.out⟩
  have HCz : Hid (CellAt wz q p ((0 : Nat) : Int) D2.life) := ⟨CellAt.below HC5.out HB5z.out⟩
  have Hqlt : Hid (qb < w5.heap.size ∧ p < w5.heap.size ∧ g < w5.heap.size ∧ bm < w5.heap.size ∧ q < w5.heap.size) := ⟨by
    have h1 := HB15.out.size
    have h2 := (Array.getElem?_eq_some_iff.1 HY1.out).1
    have h3 := HA5.out.lt
    have h4 := (Array.getElem?_eq_some_iff.1 HC5.out).1
    omega⟩
  clear hO5 hb5 hgr
  go_upto_region 17 with fail
  rw [hk0]
  clear hk0
  go_loopw [16, 17] (fun t i wr => ∃ j : Nat, j ≤ NN ∧ i = .int .i64 j ∧ t = .bool (Dg.turnedB by' j) ∧ Hid (OwnB wr w5.heap.size (.slice (some ⟨gr, 0, none⟩) 128 cr) (Dg.il (Dg.tw P k by' j))) ∧ Hid (By4 wr qb by') ∧ Hid (Below w.heap.size w wr) ∧ Hid (Below w5.heap.size w5 wr)) (fun _ i _ => 4 - (intOf i).toNat)
  case atStart => exact ⟨0, Nat.zero_le _, rfl, rfl, HO5, HYz, HBz, HB5z⟩
  case round =>
    clear HO5 HYz HBz HB5z HAz HCz
    obtain ⟨j, hj, rfl, rfl, HO, HY, HBr, HB5r⟩ := hrel
    by_cases hjN : j < NN
    · have hj4 : j < 4 := by omega
      have hjL : k + j < 116 := by omega
      obtain ⟨c, HC⟩ : ∃ c, Hid (c = (Dg.tw P k by' j).getD (k + j) 0) := ⟨_, ⟨rfl⟩⟩
      have hc256 : c < 256 := by rw [HC.out]; exact Dg.getD_lt _ (Dg.tw_byte P k by' j (by rw [HPl.out]; omega) HPb.out HBY.out) _
      have hcq : wr.cell? ⟨gr, k + j, none⟩ = some (.int .u8 (c : Int)) := by
        have := Oc.OwnB.cellAt HO.out (k + j) (by rw [Dg.il_length, Dg.tw_length, HPl.out]; omega)
        rw [Dg.il_getD, ← HC.out] at this
        exact this
      have hfq := Oc.OwnB.frozenAt HO.out (k + j)
      have hcb := By4.cell HY.out j hj4
      obtain ⟨bj, HBJ⟩ : ∃ bj, Hid (bj = by' j) := ⟨_, ⟨rfl⟩⟩
      rw [← HBJ.out] at hcb
      have hbj : bj < 256 := by rw [HBJ.out]; exact HBY.out j
      have hxr : bits .xor .u8 (c : Int) (bj : Int) = ((c ^^^ bj : Nat) : Int) := xor_u8 _ _ hc256 hbj
      obtain ⟨t, HT⟩ : ∃ t, Hid (t = Dg.turnedB by' j) := ⟨_, ⟨rfl⟩⟩
      rw [← HT.out]
      have hst := Oc.OwnB.stored HO.out Hgr.out (k + j) ((c ^^^ bj : Nat) : Int)
      have HX2 : Hid (OwnB (wr.setCell ⟨gr, k + j, none⟩ (.int .u8 ((c ^^^ bj : Nat) : Int))) w5.heap.size (.slice (some ⟨gr, 0, none⟩) 128 cr) (Dg.il (Dg.tw P k by' (j + 1)))) := ⟨by
        have := hst.1
        rw [il_set] at this
        show OwnB _ _ _ (Dg.il ((Dg.tw P k by' j).set (k + j) ((Dg.tw P k by' j).getD (k + j) 0 ^^^ by' j)))
        rw [← HC.out, ← HBJ.out]
        exact this⟩
      have HBW : Hid (Below w.heap.size w (wr.setCell ⟨gr, k + j, none⟩ (.int .u8 ((c ^^^ bj : Nat) : Int)))) := ⟨HBr.out.setCell (show w.heap.size ≤ gr from Nat.le_trans HB5.out.size Hgr.out) _⟩
      have HBW5 : Hid (Below w5.heap.size w5 (wr.setCell ⟨gr, k + j, none⟩ (.int .u8 ((c ^^^ bj : Nat) : Int)))) := ⟨HB5r.out.setCell (show w5.heap.size ≤ gr from Hgr.out) _⟩
      have HA2' : Hid (By4 (wr.setCell ⟨gr, k + j, none⟩ (.int .u8 ((c ^^^ bj : Nat) : Int))) qb by') := ⟨(heap_setCell_other _ ⟨gr, k + j, none⟩ qb _ (by have h1 := Hqlt.out; have h2 := Hgr.out; simp; omega)).trans HY.out⟩
      have hcb2 : (wr.setCell ⟨gr, k + j, none⟩ (.int .u8 ((c ^^^ bj : Nat) : Int))).drew.cell? ⟨qb, j, none⟩ = some (.int .u8 (bj : Int)) := by
        have := By4.cell HA2'.out j hj4; rw [← HBJ.out] at this; exact this
      have HTN : Hid (Dg.turnedB by' (j + 1) = (t || bj != 0)) := ⟨by show (Dg.turnedB by' j || by' j != 0) = _; rw [HT.out, HBJ.out]⟩
      clear hst
      go_upto_region 19 with fail
      go_region
      have HX3 : Hid (OwnB (wr.setCell ⟨gr, k + j, none⟩ (.int .u8 ((c ^^^ bj : Nat) : Int))).drew w5.heap.size (.slice (some ⟨gr, 0, none⟩) 128 cr) (Dg.il (Dg.tw P k by' (j + 1)))) := ⟨HX2.out⟩
      have HB3' : Hid (Below w.heap.size w (wr.setCell ⟨gr, k + j, none⟩ (.int .u8 ((c ^^^ bj : Nat) : Int))).drew) := ⟨HBW.out.drew⟩
      have HB5' : Hid (Below w5.heap.size w5 (wr.setCell ⟨gr, k + j, none⟩ (.int .u8 ((c ^^^ bj : Nat) : Int))).drew) := ⟨HBW5.out.drew⟩
      have HA3' : Hid (By4 (wr.setCell ⟨gr, k + j, none⟩ (.int .u8 ((c ^^^ bj : Nat) : Int))).drew qb by') := ⟨HA2'.out⟩
      clear HX2 HBW HBW5 HA2' hcq hfq hcb hxr HO HY HBr HB5r
      generalize (wr.setCell ⟨gr, k + j, none⟩ (.int .u8 ((c ^^^ bj : Nat) : Int))).drew = w3' at HX3 HB3' HB5' HA3' hcb2 ⊢
      cases t
      · have hbe : Hid (Dg.turnedB by' (j + 1) = (bj != 0)) := ⟨by rw [HTN.out, Bool.false_or]⟩
        clear HTN
        go_wp2
        go_roundw
        case rel =>
          refine ⟨j + 1, by omega, by go_num, ?_, HX3, HA3', HB3', HB5'⟩
          rw [hbe.out]
          congr 1
          rw [Bool.eq_iff_iff]
          simp
        case measure => simp [intOf]; omega
      · have hbe : Hid (Dg.turnedB by' (j + 1) = true) := ⟨by rw [HTN.out, Bool.true_or]⟩
        clear HTN
        go_wp2
        go_roundw
        case rel => exact ⟨j + 1, by omega, by go_num, by rw [hbe.out], HX3, HA3', HB3', HB5'⟩
        case measure => simp [intOf]; omega
    · have hjN' : j = NN := by omega
      subst hjN'
      have hne := HNE.out
      have HAr : Hid (Dk.At wr p g bm w1.heap.size D2) := ⟨HA5.out.below HB5r.out⟩
      have HCr : Hid (CellAt wr q p ((0 : Nat) : Int) 0) := ⟨by have := CellAt.below HC5.out HB5r.out; rw [HD2.out.2.2.1] at this; exact this⟩
      obtain ⟨P', HP'⟩ : ∃ P', Hid (Dg.il (Dg.tw P k by' j) = P') := ⟨_, ⟨rfl⟩⟩
      have HPl' : Hid (P'.length = 128) := ⟨by rw [← HP'.out, Dg.il_length, Dg.tw_length]; exact HPl.out⟩
      have HPy' : Hid (Dk.Byt P') := ⟨fun x hx => by
        rw [← HP'.out] at hx
        obtain ⟨y, hy', rfl⟩ := List.mem_map.1 hx
        have := Dg.tw_byte P k by' j (by rw [HPl.out]; omega) HPb.out HBY.out y hy'
        simp; omega⟩
      have HR : Hid (sc0 (Dk.rotD D2 1 P') 0 = sc0 D2 0 ∧ sc0 (Dk.rotD D2 1 P') 1 = P' ∧ (Dk.rotD D2 1 P').down = false ∧ (Dk.rotD D2 1 P').life = D2.life ∧ (Dk.rotD D2 1 P').S.length = 2 ∧ Dk.fitE D2 1 P'.length = 0) := ⟨sn3_sc HD2.out.2.1 HPl'.out⟩
      have HO' : Hid (OwnB wr w5.heap.size (.slice (some ⟨gr, 0, none⟩) 128 cr) P') := ⟨by rw [← HP'.out]; exact HO.out⟩
      have tr := Dk.rot_any HAr.out 1 _ P' (Dk.OwnB.bs HO'.out HPy'.out)
      rw [HR.out.2.2.2.2.2] at tr
      cases ht : Dg.turnedB by' j
      · have HGT : Hid (gt (sc0 (Dk.rotD D2 1 P') 0) (sc0 (Dk.rotD D2 1 P') (0 + 1)) = (0, b) ∧ (cn2 (sc0 (Dk.rotD D2 1 P') 0) (sc0 (Dk.rotD D2 1 P') (0 + 1))).2.1 = 2) := ⟨by
          have e : P' = Sl.sealB crB 2 b := by rw [← HP'.out, Dg.tw_same P k by' j (by rw [HPl.out]; omega) ht, HP.out]
          rw [show 0 + 1 = 1 from rfl, HR.out.1, HR.out.2.1, HD2.out.2.2.2.1, e]
          exact sn_no HLa.out.2 HLb.out.2⟩
        clear ht
        by_cases hj4 : j < 4
        · have hkj : ¬ ((k : Int) + (j : Int) < 116) := by omega
          clear hne
          go_upto_region 23 with (go_at_call 15; refine tr.mono ?_; rintro e w6 ⟨rfl, hA6, hc6⟩; clear tr)
          have HA6 : Hid (Dk.At w6 p g bm w1.heap.size (Dk.rotD D2 1 P')) := ⟨hA6⟩
          have HB6 : Hid (Below w.heap.size w w6) := ⟨HBr.out.trans (hc6.below HBr.out.size (fun x hx => by have h1 := At.bp HA6.out; have h2 := HB1.out.size; simp at hx; omega))⟩
          have HC6 : Hid (CellAt w6 q p ((0 : Nat) : Int) (Dk.rotD D2 1 P').life) := ⟨by rw [HR.out.2.2.2.1, HD2.out.2.2.1]; exact CellAt.chg HCr.out HAr.out hc6⟩
          have HX6 : Hid (Oc.Bs w6 (.slice aa na ca) a) := ⟨Oc.Bs.below HXa.out HB6.out⟩
          have HY6 : Hid (Oc.Bs w6 (.slice ab nb cb) b) := ⟨Oc.Bs.below HXb.out HB6.out⟩
          clear hA6 hc6
          have t7 := get_any HA6.out HC6.out HR.out.2.2.1 (by rw [HR.out.2.2.2.2.1]; decide) (Dg.NibsAt.below HV.out HB6.out)
          rw [HGT.out.1] at t7
          go_upto_region 24 with (go_at_call 16; refine t7.mono ?_; rintro e w7 ⟨v7, rfl, hO7, hb7⟩; clear t7; obtain ⟨a7, c7, rfl⟩ := Oc.OwnB.slice hO7)
          have HB67 : Hid (Below w6.heap.size w6 w7) := ⟨hb7⟩
          have HB7 : Hid (Below w.heap.size w w7) := ⟨HB6.out.trans (HB67.out.mono HB6.out.size)⟩
          have HO7 : Hid (Oc.Bs w7 (.slice a7 b.length c7) b) := ⟨Oc.OwnB.bs hO7⟩
          clear hO7 hb7
          have s1 := Oc.run_str Tryd.bt (Oc.Bs.below HX6.out HB67.out) 9 Tryd.underlying9
          have s2 := Oc.run_str Tryd.bt (Oc.Bs.below HY6.out HB67.out) 9 Tryd.underlying9
          have tl := live_any (w := w7) (Dg.NibsAt.below HV.out HB7.out)
          have hself : ((strOfNums b).toList == (strOfNums b).toList) = true := by simp
          go_wp2_with (first
            | (go_at_call 11; refine tl.mono ?_; rintro e w8 ⟨rfl, hb8⟩; clear tl; have HB78 : Hid (Below w7.heap.size w7 w8) := ⟨hb8⟩; clear hb8; have HB68 : Hid (Below w6.heap.size w6 w8) := ⟨HB67.out.trans (HB78.out.mono HB67.out.size)⟩; have HB8 : Hid (Below w.heap.size w w8) := ⟨HB7.out.trans (HB78.out.mono HB7.out.size)⟩; have s3 := Oc.run_str Tryd.bt (Oc.Bs.below HO7.out HB78.out) 9 Tryd.underlying9; have tm := mark_any (HA6.out.below HB68.out) (CellAt.below HC6.out HB68.out) HR.out.2.2.1 (by rw [HR.out.2.2.2.2.1]; decide) (Dg.NibsAt.below HV.out HB8.out); rw [HGT.out.2] at tm)
            | (go_at_call 17; refine tm.mono ?_; rintro e w9 ⟨rfl, hb9⟩; clear tm; have HB9 : Hid (Below w8.heap.size w8 w9) := ⟨hb9⟩; clear hb9))
          go_ret
          exact ⟨rfl, HB8.out.trans (HB9.out.mono HB8.out.size)⟩
        · clear hne
          go_upto_region 23 with (go_at_call 15; refine tr.mono ?_; rintro e w6 ⟨rfl, hA6, hc6⟩; clear tr)
          have HA6 : Hid (Dk.At w6 p g bm w1.heap.size (Dk.rotD D2 1 P')) := ⟨hA6⟩
          have HB6 : Hid (Below w.heap.size w w6) := ⟨HBr.out.trans (hc6.below HBr.out.size (fun x hx => by have h1 := At.bp HA6.out; have h2 := HB1.out.size; simp at hx; omega))⟩
          have HC6 : Hid (CellAt w6 q p ((0 : Nat) : Int) (Dk.rotD D2 1 P').life) := ⟨by rw [HR.out.2.2.2.1, HD2.out.2.2.1]; exact CellAt.chg HCr.out HAr.out hc6⟩
          have HX6 : Hid (Oc.Bs w6 (.slice aa na ca) a) := ⟨Oc.Bs.below HXa.out HB6.out⟩
          have HY6 : Hid (Oc.Bs w6 (.slice ab nb cb) b) := ⟨Oc.Bs.below HXb.out HB6.out⟩
          clear hA6 hc6
          have t7 := get_any HA6.out HC6.out HR.out.2.2.1 (by rw [HR.out.2.2.2.2.1]; decide) (Dg.NibsAt.below HV.out HB6.out)
          rw [HGT.out.1] at t7
          go_upto_region 24 with (go_at_call 16; refine t7.mono ?_; rintro e w7 ⟨v7, rfl, hO7, hb7⟩; clear t7; obtain ⟨a7, c7, rfl⟩ := Oc.OwnB.slice hO7)
          have HB67 : Hid (Below w6.heap.size w6 w7) := ⟨hb7⟩
          have HB7 : Hid (Below w.heap.size w w7) := ⟨HB6.out.trans (HB67.out.mono HB6.out.size)⟩
          have HO7 : Hid (Oc.Bs w7 (.slice a7 b.length c7) b) := ⟨Oc.OwnB.bs hO7⟩
          clear hO7 hb7
          have s1 := Oc.run_str Tryd.bt (Oc.Bs.below HX6.out HB67.out) 9 Tryd.underlying9
          have s2 := Oc.run_str Tryd.bt (Oc.Bs.below HY6.out HB67.out) 9 Tryd.underlying9
          have tl := live_any (w := w7) (Dg.NibsAt.below HV.out HB7.out)
          have hself : ((strOfNums b).toList == (strOfNums b).toList) = true := by simp
          go_wp2_with (first
            | (go_at_call 11; refine tl.mono ?_; rintro e w8 ⟨rfl, hb8⟩; clear tl; have HB78 : Hid (Below w7.heap.size w7 w8) := ⟨hb8⟩; clear hb8; have HB68 : Hid (Below w6.heap.size w6 w8) := ⟨HB67.out.trans (HB78.out.mono HB67.out.size)⟩; have HB8 : Hid (Below w.heap.size w w8) := ⟨HB7.out.trans (HB78.out.mono HB7.out.size)⟩; have s3 := Oc.run_str Tryd.bt (Oc.Bs.below HO7.out HB78.out) 9 Tryd.underlying9; have tm := mark_any (HA6.out.below HB68.out) (CellAt.below HC6.out HB68.out) HR.out.2.2.1 (by rw [HR.out.2.2.2.2.1]; decide) (Dg.NibsAt.below HV.out HB8.out); rw [HGT.out.2] at tm)
            | (go_at_call 17; refine tm.mono ?_; rintro e w9 ⟨rfl, hb9⟩; clear tm; have HB9 : Hid (Below w8.heap.size w8 w9) := ⟨hb9⟩; clear hb9))
          go_ret
          exact ⟨rfl, HB8.out.trans (HB9.out.mono HB8.out.size)⟩
      · have HGT : Hid (gt (sc0 (Dk.rotD D2 1 P') 0) (sc0 (Dk.rotD D2 1 P') (0 + 1)) = (0, a) ∧ (cn2 (sc0 (Dk.rotD D2 1 P') 0) (sc0 (Dk.rotD D2 1 P') (0 + 1))).2.1 = 1) := ⟨by
          have e : Sl.sayB crB P' = (0, []) := by rw [← HP'.out]; exact seen_say HLb.out.2 HYb.out P HP.out k j by' (by omega) (by omega) HBY.out ht
          rw [show 0 + 1 = 1 from rfl, HR.out.1, HR.out.2.1, HD2.out.2.2.2.1]
          exact sn_yes HLa.out.2 e⟩
        clear ht
        by_cases hj4 : j < 4
        · have hkj : ¬ ((k : Int) + (j : Int) < 116) := by omega
          clear hne
          go_upto_region 23 with (go_at_call 15; refine tr.mono ?_; rintro e w6 ⟨rfl, hA6, hc6⟩; clear tr)
          have HA6 : Hid (Dk.At w6 p g bm w1.heap.size (Dk.rotD D2 1 P')) := ⟨hA6⟩
          have HB6 : Hid (Below w.heap.size w w6) := ⟨HBr.out.trans (hc6.below HBr.out.size (fun x hx => by have h1 := At.bp HA6.out; have h2 := HB1.out.size; simp at hx; omega))⟩
          have HC6 : Hid (CellAt w6 q p ((0 : Nat) : Int) (Dk.rotD D2 1 P').life) := ⟨by rw [HR.out.2.2.2.1, HD2.out.2.2.1]; exact CellAt.chg HCr.out HAr.out hc6⟩
          have HX6 : Hid (Oc.Bs w6 (.slice aa na ca) a) := ⟨Oc.Bs.below HXa.out HB6.out⟩
          have HY6 : Hid (Oc.Bs w6 (.slice ab nb cb) b) := ⟨Oc.Bs.below HXb.out HB6.out⟩
          clear hA6 hc6
          have t7 := get_any HA6.out HC6.out HR.out.2.2.1 (by rw [HR.out.2.2.2.2.1]; decide) (Dg.NibsAt.below HV.out HB6.out)
          rw [HGT.out.1] at t7
          go_upto_region 24 with (go_at_call 16; refine t7.mono ?_; rintro e w7 ⟨v7, rfl, hO7, hb7⟩; clear t7; obtain ⟨a7, c7, rfl⟩ := Oc.OwnB.slice hO7)
          have HB67 : Hid (Below w6.heap.size w6 w7) := ⟨hb7⟩
          have HB7 : Hid (Below w.heap.size w w7) := ⟨HB6.out.trans (HB67.out.mono HB6.out.size)⟩
          have HO7 : Hid (Oc.Bs w7 (.slice a7 a.length c7) a) := ⟨Oc.OwnB.bs hO7⟩
          clear hO7 hb7
          have s1 := Oc.run_str Tryd.bt (Oc.Bs.below HX6.out HB67.out) 9 Tryd.underlying9
          have s2 := Oc.run_str Tryd.bt (Oc.Bs.below HY6.out HB67.out) 9 Tryd.underlying9
          have tl := live_any (w := w7) (Dg.NibsAt.below HV.out HB7.out)
          have hself : ((strOfNums a).toList == (strOfNums a).toList) = true := by simp
          go_wp2_with (first
            | (go_at_call 11; refine tl.mono ?_; rintro e w8 ⟨rfl, hb8⟩; clear tl; have HB78 : Hid (Below w7.heap.size w7 w8) := ⟨hb8⟩; clear hb8; have HB68 : Hid (Below w6.heap.size w6 w8) := ⟨HB67.out.trans (HB78.out.mono HB67.out.size)⟩; have HB8 : Hid (Below w.heap.size w w8) := ⟨HB7.out.trans (HB78.out.mono HB7.out.size)⟩; have s3 := Oc.run_str Tryd.bt (Oc.Bs.below HO7.out HB78.out) 9 Tryd.underlying9; have tm := mark_any (HA6.out.below HB68.out) (CellAt.below HC6.out HB68.out) HR.out.2.2.1 (by rw [HR.out.2.2.2.2.1]; decide) (Dg.NibsAt.below HV.out HB8.out); rw [HGT.out.2] at tm)
            | (go_at_call 17; refine tm.mono ?_; rintro e w9 ⟨rfl, hb9⟩; clear tm; have HB9 : Hid (Below w8.heap.size w8 w9) := ⟨hb9⟩; clear hb9))
          go_ret
          exact ⟨rfl, HB8.out.trans (HB9.out.mono HB8.out.size)⟩
        · clear hne
          go_upto_region 23 with (go_at_call 15; refine tr.mono ?_; rintro e w6 ⟨rfl, hA6, hc6⟩; clear tr)
          have HA6 : Hid (Dk.At w6 p g bm w1.heap.size (Dk.rotD D2 1 P')) := ⟨hA6⟩
          have HB6 : Hid (Below w.heap.size w w6) := ⟨HBr.out.trans (hc6.below HBr.out.size (fun x hx => by have h1 := At.bp HA6.out; have h2 := HB1.out.size; simp at hx; omega))⟩
          have HC6 : Hid (CellAt w6 q p ((0 : Nat) : Int) (Dk.rotD D2 1 P').life) := ⟨by rw [HR.out.2.2.2.1, HD2.out.2.2.1]; exact CellAt.chg HCr.out HAr.out hc6⟩
          have HX6 : Hid (Oc.Bs w6 (.slice aa na ca) a) := ⟨Oc.Bs.below HXa.out HB6.out⟩
          have HY6 : Hid (Oc.Bs w6 (.slice ab nb cb) b) := ⟨Oc.Bs.below HXb.out HB6.out⟩
          clear hA6 hc6
          have t7 := get_any HA6.out HC6.out HR.out.2.2.1 (by rw [HR.out.2.2.2.2.1]; decide) (Dg.NibsAt.below HV.out HB6.out)
          rw [HGT.out.1] at t7
          go_upto_region 24 with (go_at_call 16; refine t7.mono ?_; rintro e w7 ⟨v7, rfl, hO7, hb7⟩; clear t7; obtain ⟨a7, c7, rfl⟩ := Oc.OwnB.slice hO7)
          have HB67 : Hid (Below w6.heap.size w6 w7) := ⟨hb7⟩
          have HB7 : Hid (Below w.heap.size w w7) := ⟨HB6.out.trans (HB67.out.mono HB6.out.size)⟩
          have HO7 : Hid (Oc.Bs w7 (.slice a7 a.length c7) a) := ⟨Oc.OwnB.bs hO7⟩
          clear hO7 hb7
          have s1 := Oc.run_str Tryd.bt (Oc.Bs.below HX6.out HB67.out) 9 Tryd.underlying9
          have s2 := Oc.run_str Tryd.bt (Oc.Bs.below HY6.out HB67.out) 9 Tryd.underlying9
          have tl := live_any (w := w7) (Dg.NibsAt.below HV.out HB7.out)
          have hself : ((strOfNums a).toList == (strOfNums a).toList) = true := by simp
          go_wp2_with (first
            | (go_at_call 11; refine tl.mono ?_; rintro e w8 ⟨rfl, hb8⟩; clear tl; have HB78 : Hid (Below w7.heap.size w7 w8) := ⟨hb8⟩; clear hb8; have HB68 : Hid (Below w6.heap.size w6 w8) := ⟨HB67.out.trans (HB78.out.mono HB67.out.size)⟩; have HB8 : Hid (Below w.heap.size w w8) := ⟨HB7.out.trans (HB78.out.mono HB7.out.size)⟩; have s3 := Oc.run_str Tryd.bt (Oc.Bs.below HO7.out HB78.out) 9 Tryd.underlying9; have tm := mark_any (HA6.out.below HB68.out) (CellAt.below HC6.out HB68.out) HR.out.2.2.1 (by rw [HR.out.2.2.2.2.1]; decide) (Dg.NibsAt.below HV.out HB8.out); rw [HGT.out.2] at tm)
            | (go_at_call 17; refine tm.mono ?_; rintro e w9 ⟨rfl, hb9⟩; clear tm; have HB9 : Hid (Below w8.heap.size w8 w9) := ⟨hb9⟩; clear hb9))
          go_ret
          exact ⟨rfl, HB8.out.trans (HB9.out.mono HB8.out.size)⟩
end
end Go.Proofs.YtgjjjkokmgdmjaaDoor
