/- A word's bits behind bytes: bitWriter.add. -/
import Derived.Test.YtfecngncapenjaaH13
import Derived.Test.YtfecngncapenjaaGc
import Derived.BigRegion
import Derived.RegionTactic
namespace Go.Proofs.Ytfecngncapenjaa
open Go.RowKit Oct

/-- What a writer holds: its bytes, and how many bits of the last one are free. -/
abbrev WSt := List Int × Nat
def wext (s : WSt) : WSt := if s.2 = 0 then (s.1 ++ [0], 8) else s
def wput (s : WSt) (b : Nat) : WSt := (s.1.set (s.1.length - 1) (s.1.getD (s.1.length - 1) 0 + ((b * 2 ^ (s.2 - 1) : Nat) : Int)), s.2 - 1)
def wst1 (s : WSt) (b : Nat) : WSt := wput (wext s) b
def wst (s : WSt) (bs : List Nat) : WSt := bs.foldl wst1 s
/-- What is so of a writer. -/
structure WI (s : WSt) : Prop where
  room : s.2 ≤ 7
  by' : By s.1
  last : s.2 ≠ 0 → s.1 ≠ [] ∧ (s.1.getD (s.1.length - 1) 0).toNat % 2 ^ s.2 = 0
/-- And where it has room. -/
structure WX (s : WSt) : Prop where
  pos : 1 ≤ s.2
  room : s.2 ≤ 8
  by' : By s.1
  ne : s.1 ≠ []
  last : (s.1.getD (s.1.length - 1) 0).toNat % 2 ^ s.2 = 0
theorem WI.ext {s : WSt} (h : WI s) : WX (wext s) := by
  unfold wext
  by_cases h0 : s.2 = 0
  · rw [if_pos h0]
    refine ⟨by simp, by simp, fun x hx => ?_, by simp, ?_⟩
    · rcases List.mem_append.1 hx with hx | hx
      · exact h.by' x hx
      · simp at hx; omega
    · simp [List.getD]
  · rw [if_neg h0]
    have := h.room
    exact ⟨by omega, by omega, h.by', (h.last h0).1, (h.last h0).2⟩
theorem put_last : ∀ r, 1 ≤ r → r ≤ 8 → ∀ y, y < 256 → y % 2 ^ r = 0 → ∀ b, b < 2 → y + b * 2 ^ (r - 1) < 256 ∧ (y + b * 2 ^ (r - 1)) % 2 ^ (r - 1) = 0 := by
  intro r h1 h2 y hy h b hb
  have hr : r = 1 ∨ r = 2 ∨ r = 3 ∨ r = 4 ∨ r = 5 ∨ r = 6 ∨ r = 7 ∨ r = 8 := by omega
  have hb' : b = 0 ∨ b = 1 := by omega
  rcases hr with rfl | rfl | rfl | rfl | rfl | rfl | rfl | rfl <;> rcases hb' with rfl | rfl <;> simp at h ⊢ <;> omega
theorem getD_set_last {l : List Int} (h : l ≠ []) (v : Int) : (l.set (l.length - 1) v).getD ((l.set (l.length - 1) v).length - 1) 0 = v := by
  have := List.length_pos_iff.2 h
  rw [List.length_set]
  simp only [List.getD, List.getElem?_set, if_true]
  rw [if_pos (by omega)]
  rfl
theorem WX.put {s : WSt} (h : WX s) {b : Nat} (hb : b < 2) : WI (wput s b) := by
  have hy := h.by'.get (s.1.length - 1)
  obtain ⟨y, Hy⟩ : ∃ y : Nat, s.1.getD (s.1.length - 1) 0 = (y : Int) := ⟨(s.1.getD (s.1.length - 1) 0).toNat, by omega⟩
  have hl := h.last
  rw [Hy] at hy hl
  rw [Int.toNat_natCast] at hl
  obtain ⟨h1, h2⟩ := put_last s.2 h.pos h.room y (by omega) hl b hb
  have h3 := h.room
  have h4 := h.pos
  unfold wput
  rw [Hy]
  refine ⟨by simp only; omega, fun x hx => ?_, fun _ => ⟨by simpa using h.ne, ?_⟩⟩
  · simp only at hx
    rcases List.mem_or_eq_of_mem_set hx with hx | rfl
    · exact h.by' x hx
    · omega
  · simp only
    rw [getD_set_last h.ne]
    rw [show ((y : Int) + ((b * 2 ^ (s.2 - 1) : Nat) : Int)).toNat = y + b * 2 ^ (s.2 - 1) by omega]
    exact h2
theorem WI.one {s : WSt} (h : WI s) {b : Nat} (hb : b < 2) : WI (wst1 s b) := h.ext.put hb
theorem WI.all : ∀ {bs : List Nat} {s : WSt}, WI s → (∀ b ∈ bs, b < 2) → WI (wst s bs)
  | [], _, h, _ => h
  | b :: r, _, h, hb => WI.all (bs := r) (h.one (hb b (by simp))) (fun c hc => hb c (by simp [hc]))
theorem wst_app (s : WSt) (a b : List Nat) : wst s (a ++ b) = wst (wst s a) b := List.foldl_append
theorem wst_snoc (s : WSt) (a : List Nat) (b : Nat) : wst s (a ++ [b]) = wst1 (wst s a) b := by rw [wst_app]; rfl
theorem wst1_len (s : WSt) (b : Nat) : (wst1 s b).1.length ≤ s.1.length + 1 := by
  unfold wst1 wput wext
  simp only [List.length_set]
  by_cases h : s.2 = 0
  · rw [if_pos h]; simp
  · rw [if_neg h]; omega
theorem wst_len : ∀ (bs : List Nat) (s : WSt), (wst s bs).1.length ≤ s.1.length + bs.length
  | [], _ => Nat.le_refl _
  | b :: r, s => by
    have h1 := wst_len r (wst1 s b)
    have h2 := wst1_len s b
    rw [List.length_cons]
    show (wst (wst1 s b) r).1.length ≤ _
    omega
/-- A text of bits. -/
structure BW (s : ByteArray) (bs : List Nat) : Prop where
  size : s.size = bs.length
  at' : ∀ k (h : k < s.size), s[k].toNat = 48 + bs.getD k 0
  bin : ∀ b ∈ bs, b < 2
theorem or_shl : ∀ l, l < 8 → ∀ y, y < 256 → y % 2 ^ (l + 1) = 0 → ∀ b, b < 2 → y ||| (b * 2 ^ l) = y + b * 2 ^ l := by decide +kernel
theorem owny_row {w : World} {base n c : Nat} {a : Option Addr} {l : List Int} (h : OwnY w base (.slice a n c) l) (h0 : 0 < l.length) : ∃ g cur, a = some ⟨g, 0, none⟩ ∧ n = l.length ∧ base ≤ g ∧ n ≤ c ∧ c ≤ maxLen ∧ w.heap[g]? = some (.cells cur 5 (0, 0)) := by
  rcases h.2 with ⟨_, hn⟩ | ⟨g, cap, cur, e, hb, hh, h1, h2, _⟩
  · omega
  · simp only [Value.slice.injEq] at e
    obtain ⟨rfl, rfl, rfl⟩ := e
    exact ⟨g, cur, rfl, rfl, hb, h1, h2, hh⟩
theorem u8_wrap {x : Nat} (h : x < 256) : IntKind.u8.wrap (x : Int) = (x : Int) := by
  show ((x : Int) % 256) = _
  omega
theorem u8_shl {b m sh : Nat} (h : b * 2 ^ m = sh) (hs : sh < 256) : IntKind.u8.wrap ((b : Int) * 2 ^ m) = (sh : Int) := by
  have e : (b : Int) * 2 ^ m = (sh : Int) := by rw [← h]; simp
  rw [e, u8_wrap hs]
theorem u8_or {y sh : Nat} (hy : y < 256) (hs : sh < 256) (h : y ||| sh = y + sh) (h2 : y + sh < 256) : bits .or .u8 (y : Int) (sh : Int) = (y : Int) + (sh : Int) := by
  have e : ∀ x : Nat, x < 256 → (BitVec.ofInt 8 (x : Int)).toNat = x := fun x hx => by
    rw [BitVec.toNat_ofInt]
    omega
  show IntKind.u8.wrap ((BitVec.ofInt 8 (y : Int) ||| BitVec.ofInt 8 (sh : Int)).toNat : Int) = _
  rw [BitVec.toNat_or, e y hy, e sh hs, h, u8_wrap h2]
  omega
/-- A writer's cells. -/
def WrB (w : World) (base p : Nat) (s : WSt) : Prop := ∃ v, w.heap[p]? = some (.cells #[v, .int .i64 (s.2 : Int)] 65 (0, 0)) ∧ OwnY w base v s.1
section
variable {w : World}
set_option maxHeartbeats 8000000 in
set_option maxRecDepth 100000 in
theorem add33 (base p : Nat) (s : WSt) (str : ByteArray) (bs : List Nat) (hW : WrB w base p s) (hI : WI s) (hB : BW str bs) (hlen : s.1.length + bs.length ≤ 1000000) (hbase : base ≤ w.heap.size) (hbp : base ≤ p) :
    Calls Try.prog 33 #[.pointer (some ⟨p, 0, none⟩), .string str] w fun e w' => e = .returned (.tuple #[]) ∧ WrB w' base p (wst s bs) ∧ Below base w w' := by
  have HW := Hid.mk hW
  have HI := Hid.mk hI
  have HBW := Hid.mk hB
  have hsz := hB.size
  have Hlen := Hid.mk hlen
  obtain ⟨N, HN⟩ : ∃ N, Hid (bs.length = N) := ⟨_, ⟨rfl⟩⟩
  rw [HN.out] at hsz hlen
  have hN6 : N ≤ 1000000 := by omega
  clear hW hI hB hlen
  go_enter Try.func33, Try.ntmps33
  go_upto_region 1 with fail
  go_loopg [4, 7] N (fun gg _s4 s7 wr => ∃ k : Nat, k ≤ N ∧ N - k ≤ gg ∧ s7 = .int .i64 (k : Int) ∧ Hid (WrB wr base p (wst s (bs.take k))) ∧ Hid (Below base w wr))
  case atStart => exact ⟨0, Nat.zero_le _, by omega, rfl, HW, ⟨Below.refl _ _⟩⟩
  case round =>
    clear HW
    obtain ⟨k, hk, hgg, rfl, HW, HB⟩ := hrel
    rename World => wo
    have hbo : base ≤ wo.heap.size := Nat.le_trans hbase HB.out.size
    by_cases hlt : k < N
    · have hks : k < str.size := by omega
      have hltz : (k : Int) < (str.size : Int) := by omega
      obtain ⟨b, Hb⟩ : ∃ b, Hid (bs.getD k 0 = b) := ⟨_, ⟨rfl⟩⟩
      have hsk := HBW.out.at' k hks
      rw [Hb.out] at hsk
      have hb2 : b < 2 := by
        have : bs.getD k 0 ∈ bs := by
          rw [show bs.getD k 0 = bs[k]'(by rw [HN.out]; exact hlt) by simp [List.getD, List.getElem?_eq_getElem (show k < bs.length by rw [HN.out]; exact hlt)]]
          exact List.getElem_mem _
        rw [Hb.out] at this
        exact HBW.out.bin b this
      have hskz : (str[k].toNat : Int) = 48 + (b : Int) := by omega
      have HNx : Hid (wst s (bs.take (k + 1)) = wput (wext (wst s (bs.take k))) b) := ⟨by
        rw [List.take_add_one, List.getElem?_eq_getElem (by rw [HN.out]; exact hlt)]
        have : bs[k]'(by rw [HN.out]; exact hlt) = b := by rw [← Hb.out]; simp [List.getD, List.getElem?_eq_getElem (show k < bs.length by rw [HN.out]; exact hlt)]
        simp only [Option.toList_some]
        rw [this, wst_snoc]; rfl⟩
      have HIk : Hid (WI (wst s (bs.take k))) := ⟨HI.out.all (fun c hc => HBW.out.bin c (List.mem_of_mem_take hc))⟩
      have HLk : Hid ((wst s (bs.take k)).1.length ≤ 1000000) := ⟨by have h1 := wst_len (bs.take k) s; have h2 := List.length_take_le k bs; have h3 := List.length_take (i := k) (l := bs); have h4 := Hlen.out; omega⟩
      obtain ⟨s1, Hs1⟩ : ∃ x, Hid (wst s (bs.take k) = x) := ⟨_, ⟨rfl⟩⟩
      rw [Hs1.out] at HW HNx HIk HLk
      have HXk : Hid (WX (wext s1)) := ⟨HIk.out.ext⟩
      obtain ⟨B0, r⟩ := s1
      simp only at HW HLk
      obtain ⟨v, hp, hO⟩ := HW.out
      simp only at hp hO
      have HP := Hid.mk hp
      have HO : Hid (OwnY wo base v B0) := ⟨hO⟩
      obtain ⟨va, vc, e, _⟩ := HO.out.shape
      subst e
      obtain ⟨vn, Hvn⟩ : ∃ x, Hid (B0.length = x) := ⟨_, ⟨rfl⟩⟩
      rw [Hvn.out] at HO HP
      have hpv : p ∉ ob (.slice va vn vc) := fun hm => Ty.ne (e := 5) (f := 65) (own_ty HO.out (mem_ob.1 hm)) ⟨_, HP.out⟩ (by decide) rfl
      have Hpv := Hid.mk hpv
      have hr7 := HIk.out.room
      simp only at hr7
      clear hp hO hpv HW
      have d0 : wo.cell? ⟨p, 0, none⟩ = some (.slice va vn vc) := by rw [cell_of_row _ _ _ _ _ _ HP.out]; rfl
      have d1 : wo.cell? ⟨p, 1, none⟩ = some (.int .i64 (r : Int)) := by rw [cell_of_row _ _ _ _ _ _ HP.out]; rfl
      have f1 : wo.frozen? ⟨p, 1, none⟩ = false := frozen_of_row _ _ _ _ _ HP.out
      by_cases hr0 : r = 0
      · subst hr0
        have HE : Hid (wext (B0, 0) = (B0 ++ [0], 8)) := ⟨rfl⟩
        rw [HE.out] at HNx HXk
        have HP0 : Hid (wo.heap[p]? = some (.cells #[.slice va vn vc, .int .i64 0] 65 (0, 0))) := ⟨HP.out⟩
        have d1 : wo.cell? ⟨p, 1, none⟩ = some (.int .i64 0) := by rw [cell_of_row _ _ _ _ _ _ HP0.out]; rfl
        clear HP
        go_upto_region 6 with (at_builtin; refine wp_appY1 (y := 0) (xs := B0) rfl (.tmp 19) (.tmp 20) rfl rfl HO.out rfl (by have := HLk.out; omega) hbo ?_; intro v5 w5 hO5 hG5 hV5
                               have HO5 : Hid (OwnY w5 base v5 (B0 ++ [0])) := ⟨hO5⟩
                               obtain ⟨a5, c5, e5, _⟩ := HO5.out.shape
                               subst e5
                               obtain ⟨n5, Hn5⟩ : ∃ x, Hid ((B0 ++ [0]).length = x) := ⟨_, ⟨rfl⟩⟩
                               rw [Hn5.out] at HO5 ⊢
                               obtain ⟨g, cur, e, -, hgb, hvc, hcm, hgr⟩ := owny_row HO5.out (by simp)
                               subst e
                               have HGr := Hid.mk hgr
                               have HC5 : Hid (Chg (ob (.slice va vn vc)) wo w5) := ⟨hG5⟩
                               have HP5 : Hid (w5.heap[p]? = some (.cells #[.slice va vn vc, .int .i64 0] 65 (0, 0))) := ⟨(HC5.out.block p (Array.getElem?_eq_some_iff.1 HP0.out).1 Hpv.out).trans HP0.out⟩
                               have HB5 : Hid (Below base w w5) := ⟨HB.out.trans (HC5.out.below hbo (fun x hx => (World.ownsRow.lt HO.out x (mem_ob.1 hx)).1))⟩
                               have e0 : w5.cell? ⟨p, 0, none⟩ = some (.slice va vn vc) := by rw [cell_of_row _ _ _ _ _ _ HP5.out]; rfl
                               have e1 : w5.cell? ⟨p, 1, none⟩ = some (.int .i64 0) := by rw [cell_of_row _ _ _ _ _ _ HP5.out]; rfl
                               have g0 : w5.frozen? ⟨p, 0, none⟩ = false := frozen_of_row _ _ _ _ _ HP5.out
                               have g1 : w5.frozen? ⟨p, 1, none⟩ = false := frozen_of_row _ _ _ _ _ HP5.out
                               clear hO5 hG5 hV5 hgr)
        obtain ⟨m, Hm⟩ : ∃ m, Hid (8 - 1 = m) := ⟨7, ⟨rfl⟩⟩
        go_upto_region 7 with fail
        have hm7e : m = 7 := Hm.out.symm
        obtain ⟨W, HWd⟩ : ∃ x, Hid (((w5.setCell ⟨p, 0, none⟩ (.slice (some ⟨g, 0, none⟩) n5 c5)).setCell ⟨p, 1, none⟩ (.int .i64 8)).setCell ⟨p, 1, none⟩ (.int .i64 7) = x) := ⟨_, ⟨rfl⟩⟩
        rw [HWd.out]
        have HCW : Hid (Chg [p] w5 W) := ⟨by rw [← HWd.out]; exact (((Chg.refl [p] w5).setCell (.inl (by simp)) _).setCell (.inl (by simp)) _).setCell (.inl (by simp)) _⟩
        have HPW : Hid (W.heap[p]? = some (.cells #[.slice (some ⟨g, 0, none⟩) n5 c5, .int .i64 (m : Int)] 65 (0, 0))) := ⟨by
          rw [← HWd.out, hm7e]
          have h1 := heap_setCell_same w5 p 0 _ 65 (.slice (some ⟨g, 0, none⟩) n5 c5) HP5.out
          have h2 := heap_setCell_same _ p 1 _ 65 (.int .i64 8) h1
          have h3 := heap_setCell_same _ p 1 _ 65 (.int .i64 7) h2
          simpa using h3⟩
        have hgp0 : g ≠ p := fun e => Ty.ne (e := 5) (f := 65) (own_ty HO5.out (g := g) rfl) ⟨_, HP5.out⟩ (by decide) e
        have HOW : Hid (OwnY W base (.slice (some ⟨g, 0, none⟩) n5 c5) (B0 ++ [0])) := ⟨own_far HO5.out HCW.out (fun x hx hm => by
          simp [Value.ownBlock] at hx
          simp at hm
          exact hgp0 (hx.trans hm))⟩
        have HGW : Hid (W.heap[g]? = some (.cells cur 5 (0, 0))) := ⟨(HCW.out.block g (Array.getElem?_eq_some_iff.1 HGr.out).1 (by simpa using hgp0)).trans HGr.out⟩
        have HBW2 : Hid (Below base w W) := ⟨HB5.out.trans (HCW.out.below (Nat.le_trans hbase HB5.out.size) (fun x hx => by simp at hx; omega))⟩
        have HnB : Hid ((B0 ++ [0]).length = n5) := Hn5
        clear d0 d1 f1 hgp0 e0 e1 g0 g1
        rw [show (7 : Int) = (m : Int) by omega]
        clear hm7e
        obtain ⟨l, Hl⟩ : ∃ l, Hid (n5 - 1 = l) := ⟨_, ⟨rfl⟩⟩
        have hl := Hl.out
        have hn0 : 0 < n5 := by rw [← HnB.out]; exact List.length_pos_iff.2 (show (B0 ++ [0]) ≠ [] from HXk.out.ne)
        have hln : l < n5 := by omega
        have hlz : (n5 : Int) - 1 = (l : Int) := by omega
        have hlnz : (l : Int) < (n5 : Int) := by omega
        have hcx : c5 ≤ 9223372036854775807 := hcm
        have hlw : IntKind.i64.wrap (l : Int) = (l : Int) := IntWalk.i64_in _ ⟨by omega, by omega⟩
        have hbw : IntKind.u8.wrap (48 + (b : Int) - 48) = (b : Int) := by
          have : b = 0 ∨ b = 1 := by omega
          rcases this with rfl | rfl <;> rfl
        obtain ⟨y, Hy⟩ : ∃ y : Nat, Hid ((B0 ++ [0]).getD l 0 = (y : Int) ∧ y < 256) := ⟨((B0 ++ [0]).getD l 0).toNat, ⟨by have := HXk.out.by'.get l; simp only at this; omega⟩⟩
        have Hym : Hid (y % 2 ^ (m + 1) = 0) := ⟨by
          have h1 := HXk.out.last
          have h2 := HXk.out.pos
          simp only at h1 h2
          rw [HnB.out, Hl.out, Hy.out.1, Int.toNat_natCast] at h1
          rw [show m + 1 = 8 by have := Hm.out; omega]
          exact h1⟩
        have hm7 : m ≤ 7 := by have h1 := HXk.out.room; simp only at h1; have := Hm.out; omega
        have hm8 : m < 8 := by omega
        obtain ⟨sh, Hsh⟩ : ∃ x, Hid (b * 2 ^ m = x) := ⟨_, ⟨rfl⟩⟩
        have Hor : Hid (y ||| sh = y + sh) := ⟨by rw [← Hsh.out]; exact or_shl m hm8 y Hy.out.2 Hym.out b hb2⟩
        have Hpl := put_last 8 (by have h := HXk.out.pos; simp only at h; exact h) (by have h := HXk.out.room; simp only at h; exact h) y Hy.out.2 (by rw [show 8 = m + 1 by have h := HXk.out.pos; simp only at h; have := Hm.out; omega]; exact Hym.out) b hb2
        rw [Hm.out, Hsh.out] at Hpl
        have hys : y + sh < 256 := Hpl.1
        have hsh : sh < 256 := by omega
        have hy256 : y < 256 := Hy.out.2
        have hshw : IntKind.u8.wrap ((b : Int) * 2 ^ m) = (sh : Int) := u8_shl Hsh.out hsh
        have horb : bits .or .u8 (y : Int) (sh : Int) = (y : Int) + (sh : Int) := u8_or hy256 hsh Hor.out hys
        clear Hpl
        have hgp : g ≠ p := fun e => Ty.ne (e := 5) (f := 65) (own_ty HOW.out (g := g) rfl) ⟨_, HPW.out⟩ (by decide) e
        have HK : Hid (∀ w' : World, (∀ kk, kk < W.heap.size → kk ≠ g → w'.heap[kk]? = W.heap[kk]?) → w'.cell? ⟨p, 0, none⟩ = some (.slice (some ⟨g, 0, none⟩) n5 c5) ∧ w'.cell? ⟨p, 1, none⟩ = some (.int .i64 (m : Int))) := ⟨fun w' h => by
          have h1 := (h p (Array.getElem?_eq_some_iff.1 HPW.out).1 (fun e => hgp e.symm)).trans HPW.out
          exact ⟨by rw [cell_of_row _ _ _ _ _ _ h1]; rfl, by rw [cell_of_row _ _ _ _ _ _ h1]; rfl⟩⟩
        have cg : W.cell? ⟨g, l, none⟩ = some (.int .u8 (y : Int)) := by
          obtain ⟨g', o', c', e, hcp, hat⟩ := HOW.out.rd.at (i := l) (by rw [HnB.out]; exact hln)
          rw [HnB.out] at e
          simp only [Value.slice.injEq, Option.some.injEq, Addr.mk.injEq] at e
          obtain ⟨⟨rfl, rfl, _⟩, -, rfl⟩ := e
          have := hat l (by rw [HnB.out]; exact hln)
          rw [Nat.zero_add, Hy.out.1] at this
          exact this
        have cg' : W.drew.cell? ⟨g, l, none⟩ = some (.int .u8 (y : Int)) := cg
        have fg : W.frozen? ⟨g, l, none⟩ = false := frozen_of_row _ _ _ _ _ HGW.out
        refine wp_region_held_drew (S := fun w' => ∀ kk, kk < W.heap.size → kk ≠ g → w'.heap[kk]? = W.heap[kk]?) (by kernel_rfl) (fun _ _ _ => rfl) (fun hS => ?_)
        refine wpAnyH_take (i := 0) (v := .pointer (some ⟨p, 0, none⟩)) rfl (by kernel_rfl) (by kernel_rfl) (by kernel_rfl) (fun _ _ _ h => h) (Or.inl ⟨by kernel_rfl, fun wx hx => by go_simp⟩) hS ?_
        refine wpAnyH_take (i := 1) (v := .pointer (some ⟨p, 0, none⟩)) rfl (by kernel_rfl) (by kernel_rfl) (by kernel_rfl) (fun _ _ _ h => h) (Or.inl ⟨by kernel_rfl, fun wx hx => by go_simp⟩) hS ?_
        refine wpAnyH_take (i := 2) (v := .pointer (some ⟨p, 0, none⟩)) rfl (by kernel_rfl) (by kernel_rfl) (by kernel_rfl) (fun _ _ _ h => h) (Or.inl ⟨by kernel_rfl, fun wx hx => by go_simp⟩) hS ?_
        refine wpAnyH_take (i := 3) (v := .slice (some ⟨g, 0, none⟩) n5 c5) rfl (by kernel_rfl) (by kernel_rfl) (by kernel_rfl) (fun _ _ _ h => h) (Or.inl ⟨by kernel_rfl, fun wx hx => by obtain ⟨hx1, hx2⟩ := HK.out wx hx; go_simp⟩) hS ?_
        refine wpAnyH_take (i := 4) (v := .pointer (some ⟨p, 0, none⟩)) rfl (by kernel_rfl) (by kernel_rfl) (by kernel_rfl) (fun _ _ _ h => h) (Or.inl ⟨by kernel_rfl, fun wx hx => by go_simp⟩) hS ?_
        refine wpAnyH_take (i := 5) (v := .pointer (some ⟨p, 0, none⟩)) rfl (by kernel_rfl) (by kernel_rfl) (by kernel_rfl) (fun _ _ _ h => h) (Or.inl ⟨by kernel_rfl, fun wx hx => by go_simp⟩) hS ?_
        refine wpAnyH_take (i := 6) (v := .pointer (some ⟨p, 0, none⟩)) rfl (by kernel_rfl) (by kernel_rfl) (by kernel_rfl) (fun _ _ _ h => h) (Or.inl ⟨by kernel_rfl, fun wx hx => by go_simp⟩) hS ?_
        refine wpAnyH_take (i := 7) (v := .slice (some ⟨g, 0, none⟩) n5 c5) rfl (by kernel_rfl) (by kernel_rfl) (by kernel_rfl) (fun _ _ _ h => h) (Or.inl ⟨by kernel_rfl, fun wx hx => by obtain ⟨hx1, hx2⟩ := HK.out wx hx; go_simp⟩) hS ?_
        refine wpAnyH_take (i := 8) (v := .int .i64 (n5 : Int)) rfl (by kernel_rfl) (by kernel_rfl) (by kernel_rfl) (fun _ _ _ h => h) (Or.inl ⟨by kernel_rfl, fun wx hx => by go_simp⟩) hS ?_
        refine wpAnyH_take (i := 9) (v := .int .i64 (l : Int)) rfl (by kernel_rfl) (by kernel_rfl) (by kernel_rfl) (fun _ _ _ h => h) (Or.inl ⟨by kernel_rfl, fun wx hx => by go_simp⟩) hS ?_
        refine wpAnyH_take (i := 10) (v := .pointer (some ⟨g, l, none⟩)) rfl (by kernel_rfl) (by kernel_rfl) (by kernel_rfl) (fun _ _ _ h => h) (Or.inl ⟨by kernel_rfl, fun wx hx => by go_simp⟩) hS ?_
        refine wpAnyH_take (i := 12) (v := .string str) rfl (by kernel_rfl) (by kernel_rfl) (by kernel_rfl) (fun _ _ _ h => h) (Or.inl ⟨by kernel_rfl, fun wx hx => by go_simp⟩) hS ?_
        refine wpAnyH_take (i := 13) (v := .int .i64 (k : Int)) rfl (by kernel_rfl) (by kernel_rfl) (by kernel_rfl) (fun _ _ _ h => h) (Or.inl ⟨by kernel_rfl, fun wx hx => by go_simp⟩) hS ?_
        refine wpAnyH_take (i := 14) (v := .int .u8 (48 + (b : Int))) rfl (by kernel_rfl) (by kernel_rfl) (by kernel_rfl) (fun _ _ _ h => h) (Or.inl ⟨by kernel_rfl, fun wx hx => by go_simp⟩) hS ?_
        refine wpAnyH_take (i := 15) (v := .int .u8 (b : Int)) rfl (by kernel_rfl) (by kernel_rfl) (by kernel_rfl) (fun _ _ _ h => h) (Or.inl ⟨by kernel_rfl, fun wx hx => by go_simp⟩) hS ?_
        refine wpAnyH_take (i := 16) (v := .pointer (some ⟨p, 0, none⟩)) rfl (by kernel_rfl) (by kernel_rfl) (by kernel_rfl) (fun _ _ _ h => h) (Or.inl ⟨by kernel_rfl, fun wx hx => by go_simp⟩) hS ?_
        refine wpAnyH_take (i := 17) (v := .pointer (some ⟨p, 0, none⟩)) rfl (by kernel_rfl) (by kernel_rfl) (by kernel_rfl) (fun _ _ _ h => h) (Or.inl ⟨by kernel_rfl, fun wx hx => by go_simp⟩) hS ?_
        refine wpAnyH_take (i := 18) (v := .pointer (some ⟨p, 1, none⟩)) rfl (by kernel_rfl) (by kernel_rfl) (by kernel_rfl) (fun _ _ _ h => h) (Or.inl ⟨by kernel_rfl, fun wx hx => by go_simp⟩) hS ?_
        refine wpAnyH_take (i := 19) (v := .int .i64 (m : Int)) rfl (by kernel_rfl) (by kernel_rfl) (by kernel_rfl) (fun _ _ _ h => h) (Or.inl ⟨by kernel_rfl, fun wx hx => by obtain ⟨hx1, hx2⟩ := HK.out wx hx; go_simp⟩) hS ?_
        refine wpAnyH_take (i := 20) (v := .int .u8 (sh : Int)) rfl (by kernel_rfl) (by kernel_rfl) (by kernel_rfl) (fun _ _ _ h => h) (Or.inl ⟨by kernel_rfl, fun wx hx => by go_simp⟩) hS ?_
        refine wpAnyH_ready (rs := [11]) (by kernel_rfl) (by simp) (AllReadyH.cons rfl (fun Kc hK => ?_) AllReadyH.nil)
        go_simp
        refine hK.out _ _ hS (fun hS => ?_)
        clear hK
        refine wpAnyH_take (i := 21) (v := .int .u8 ((y + sh : Nat) : Int)) rfl (by kernel_rfl) (by kernel_rfl) (by kernel_rfl) (fun _ _ _ h => h) (Or.inl ⟨by kernel_rfl, fun wx hx => by go_simp⟩) hS ?_
        refine wpAnyH_take (i := 22) (v := .pointer (some ⟨g, l, none⟩)) rfl (by kernel_rfl) (by kernel_rfl) (by kernel_rfl) (fun _ _ _ h => h) (Or.inl ⟨by kernel_rfl, fun wx hx => by go_simp⟩) hS ?_
        refine wpAnyH_ready (rs := [23]) (by kernel_rfl) (by simp) (AllReadyH.cons rfl (fun Kc hK => ?_) AllReadyH.nil)
        go_simp
        obtain ⟨U, HU⟩ : ∃ x, Hid ((W.setCell ⟨g, l, none⟩ (.int .u8 ((y : Int) + (sh : Int)))).drew = x) := ⟨_, ⟨rfl⟩⟩
        rw [HU.out]
        have HCU : Hid (Chg [g] W U) := ⟨by rw [← HU.out]; exact ((Chg.refl [g] W).setCell (.inl (by simp)) _).drew⟩
        have HPU : Hid (U.heap[p]? = some (.cells #[.slice (some ⟨g, 0, none⟩) n5 c5, .int .i64 (m : Int)] 65 (0, 0))) := ⟨(HCU.out.block p (Array.getElem?_eq_some_iff.1 HPW.out).1 (by simpa using fun e => hgp e.symm)).trans HPW.out⟩
        have HOU : Hid (OwnY U base (.slice (some ⟨g, 0, none⟩) n5 c5) ((B0 ++ [0]).set l ((y : Int) + (sh : Int)))) := ⟨by rw [← HU.out]; exact own_far (OwnB.stored HOW.out hgb l ((y : Int) + (sh : Int))).1 (Chg.refl (X := []) _).drew (fun _ _ => by simp)⟩
        have HBU : Hid (Below base w U) := ⟨HBW2.out.trans (HCU.out.below (Nat.le_trans hbase HBW2.out.size) (fun x hx => by simp at hx; rw [hx]; exact hgb))⟩
        refine hK.out _ _ (fun kk hk1 hk2 => HCU.out.block kk hk1 (by simpa using hk2)) (fun hS => ?_)
        clear hK cg cg' fg
        refine wpAnyH_done (by kernel_rfl) ?_ _
        go_simp
        go_wp2_with fail
        go_roundg (N - (k + 1))
        case measure => omega
        case rel =>
          refine ⟨k + 1, by omega, by omega, by go_num, ⟨?_⟩, HBU⟩
          rw [HNx.out]
          refine ⟨.slice (some ⟨g, 0, none⟩) n5 c5, ?_, ?_⟩
          · unfold wput
            simp only
            rw [Hm.out]
            exact HPU.out
          · unfold wput
            simp only
            rw [Hm.out, HnB.out, Hl.out, Hy.out.1, Hsh.out]
            exact HOU.out
      · have hr1 : 1 ≤ r := by omega
        have hrb : ((r : Int) == 0) = false := by simp; omega
        have HE : Hid (wext (B0, r) = (B0, r)) := ⟨by unfold wext; rw [if_neg hr0]⟩
        rw [HE.out] at HNx HXk
        have h0 : 0 < B0.length := by have := List.length_pos_iff.2 HXk.out.ne; simp only at this; exact this
        obtain ⟨g, cur, e, -, hgb, hvc, hcm, hgr⟩ := owny_row HO.out h0
        subst e
        have HGr := Hid.mk hgr
        clear hgr
        obtain ⟨m, Hm⟩ : ∃ m, Hid (r - 1 = m) := ⟨_, ⟨rfl⟩⟩
        have hm := Hm.out
        have hmz : (r : Int) - 1 = (m : Int) := by omega
        go_upto_region 7 with fail
        obtain ⟨W, HWd⟩ : ∃ x, Hid (wo.setCell ⟨p, 1, none⟩ (.int .i64 (m : Int)) = x) := ⟨_, ⟨rfl⟩⟩
        rw [HWd.out]
        have HCW : Hid (Chg [p] wo W) := ⟨by rw [← HWd.out]; exact (Chg.refl [p] wo).setCell (.inl (by simp)) _⟩
        have HPW : Hid (W.heap[p]? = some (.cells #[.slice (some ⟨g, 0, none⟩) vn vc, .int .i64 (m : Int)] 65 (0, 0))) := ⟨by
          rw [← HWd.out]
          have := heap_setCell_same wo p 1 _ 65 (.int .i64 (m : Int)) HP.out
          simpa using this⟩
        have hgp0 : g ≠ p := fun e => Hpv.out (by rw [← e]; simp [ob, Value.ownBlock])
        have HOW : Hid (OwnY W base (.slice (some ⟨g, 0, none⟩) vn vc) B0) := ⟨own_far HO.out HCW.out (fun x hx hm => by
          simp [Value.ownBlock] at hx
          simp at hm
          exact hgp0 (hx.trans hm))⟩
        have HGW : Hid (W.heap[g]? = some (.cells cur 5 (0, 0))) := ⟨(HCW.out.block g (Array.getElem?_eq_some_iff.1 HGr.out).1 (by simpa using hgp0)).trans HGr.out⟩
        have HBW2 : Hid (Below base w W) := ⟨HB.out.trans (HCW.out.below hbo (fun x hx => by simp at hx; omega))⟩
        have HnB : Hid (B0.length = vn) := Hvn
        clear d0 d1 f1 hgp0
        obtain ⟨l, Hl⟩ : ∃ l, Hid (vn - 1 = l) := ⟨_, ⟨rfl⟩⟩
        have hl := Hl.out
        have hn0 : 0 < vn := by rw [← HnB.out]; exact List.length_pos_iff.2 (show B0 ≠ [] from HXk.out.ne)
        have hln : l < vn := by omega
        have hlz : (vn : Int) - 1 = (l : Int) := by omega
        have hlnz : (l : Int) < (vn : Int) := by omega
        have hcx : vc ≤ 9223372036854775807 := hcm
        have hlw : IntKind.i64.wrap (l : Int) = (l : Int) := IntWalk.i64_in _ ⟨by omega, by omega⟩
        have hbw : IntKind.u8.wrap (48 + (b : Int) - 48) = (b : Int) := by
          have : b = 0 ∨ b = 1 := by omega
          rcases this with rfl | rfl <;> rfl
        obtain ⟨y, Hy⟩ : ∃ y : Nat, Hid (B0.getD l 0 = (y : Int) ∧ y < 256) := ⟨(B0.getD l 0).toNat, ⟨by have := HXk.out.by'.get l; simp only at this; omega⟩⟩
        have Hym : Hid (y % 2 ^ (m + 1) = 0) := ⟨by
          have h1 := HXk.out.last
          have h2 := HXk.out.pos
          simp only at h1 h2
          rw [HnB.out, Hl.out, Hy.out.1, Int.toNat_natCast] at h1
          rw [show m + 1 = r by have := Hm.out; omega]
          exact h1⟩
        have hm7 : m ≤ 7 := by have h1 := HXk.out.room; simp only at h1; have := Hm.out; omega
        have hm8 : m < 8 := by omega
        obtain ⟨sh, Hsh⟩ : ∃ x, Hid (b * 2 ^ m = x) := ⟨_, ⟨rfl⟩⟩
        have Hor : Hid (y ||| sh = y + sh) := ⟨by rw [← Hsh.out]; exact or_shl m hm8 y Hy.out.2 Hym.out b hb2⟩
        have Hpl := put_last r (by have h := HXk.out.pos; simp only at h; exact h) (by have h := HXk.out.room; simp only at h; exact h) y Hy.out.2 (by rw [show r = m + 1 by have h := HXk.out.pos; simp only at h; have := Hm.out; omega]; exact Hym.out) b hb2
        rw [Hm.out, Hsh.out] at Hpl
        have hys : y + sh < 256 := Hpl.1
        have hsh : sh < 256 := by omega
        have hy256 : y < 256 := Hy.out.2
        have hshw : IntKind.u8.wrap ((b : Int) * 2 ^ m) = (sh : Int) := u8_shl Hsh.out hsh
        have horb : bits .or .u8 (y : Int) (sh : Int) = (y : Int) + (sh : Int) := u8_or hy256 hsh Hor.out hys
        clear Hpl
        have hgp : g ≠ p := fun e => Ty.ne (e := 5) (f := 65) (own_ty HOW.out (g := g) rfl) ⟨_, HPW.out⟩ (by decide) e
        have HK : Hid (∀ w' : World, (∀ kk, kk < W.heap.size → kk ≠ g → w'.heap[kk]? = W.heap[kk]?) → w'.cell? ⟨p, 0, none⟩ = some (.slice (some ⟨g, 0, none⟩) vn vc) ∧ w'.cell? ⟨p, 1, none⟩ = some (.int .i64 (m : Int))) := ⟨fun w' h => by
          have h1 := (h p (Array.getElem?_eq_some_iff.1 HPW.out).1 (fun e => hgp e.symm)).trans HPW.out
          exact ⟨by rw [cell_of_row _ _ _ _ _ _ h1]; rfl, by rw [cell_of_row _ _ _ _ _ _ h1]; rfl⟩⟩
        have cg : W.cell? ⟨g, l, none⟩ = some (.int .u8 (y : Int)) := by
          obtain ⟨g', o', c', e, hcp, hat⟩ := HOW.out.rd.at (i := l) (by rw [HnB.out]; exact hln)
          rw [HnB.out] at e
          simp only [Value.slice.injEq, Option.some.injEq, Addr.mk.injEq] at e
          obtain ⟨⟨rfl, rfl, _⟩, -, rfl⟩ := e
          have := hat l (by rw [HnB.out]; exact hln)
          rw [Nat.zero_add, Hy.out.1] at this
          exact this
        have cg' : W.drew.cell? ⟨g, l, none⟩ = some (.int .u8 (y : Int)) := cg
        have fg : W.frozen? ⟨g, l, none⟩ = false := frozen_of_row _ _ _ _ _ HGW.out
        refine wp_region_held_drew (S := fun w' => ∀ kk, kk < W.heap.size → kk ≠ g → w'.heap[kk]? = W.heap[kk]?) (by kernel_rfl) (fun _ _ _ => rfl) (fun hS => ?_)
        refine wpAnyH_take (i := 0) (v := .pointer (some ⟨p, 0, none⟩)) rfl (by kernel_rfl) (by kernel_rfl) (by kernel_rfl) (fun _ _ _ h => h) (Or.inl ⟨by kernel_rfl, fun wx hx => by go_simp⟩) hS ?_
        refine wpAnyH_take (i := 1) (v := .pointer (some ⟨p, 0, none⟩)) rfl (by kernel_rfl) (by kernel_rfl) (by kernel_rfl) (fun _ _ _ h => h) (Or.inl ⟨by kernel_rfl, fun wx hx => by go_simp⟩) hS ?_
        refine wpAnyH_take (i := 2) (v := .pointer (some ⟨p, 0, none⟩)) rfl (by kernel_rfl) (by kernel_rfl) (by kernel_rfl) (fun _ _ _ h => h) (Or.inl ⟨by kernel_rfl, fun wx hx => by go_simp⟩) hS ?_
        refine wpAnyH_take (i := 3) (v := .slice (some ⟨g, 0, none⟩) vn vc) rfl (by kernel_rfl) (by kernel_rfl) (by kernel_rfl) (fun _ _ _ h => h) (Or.inl ⟨by kernel_rfl, fun wx hx => by obtain ⟨hx1, hx2⟩ := HK.out wx hx; go_simp⟩) hS ?_
        refine wpAnyH_take (i := 4) (v := .pointer (some ⟨p, 0, none⟩)) rfl (by kernel_rfl) (by kernel_rfl) (by kernel_rfl) (fun _ _ _ h => h) (Or.inl ⟨by kernel_rfl, fun wx hx => by go_simp⟩) hS ?_
        refine wpAnyH_take (i := 5) (v := .pointer (some ⟨p, 0, none⟩)) rfl (by kernel_rfl) (by kernel_rfl) (by kernel_rfl) (fun _ _ _ h => h) (Or.inl ⟨by kernel_rfl, fun wx hx => by go_simp⟩) hS ?_
        refine wpAnyH_take (i := 6) (v := .pointer (some ⟨p, 0, none⟩)) rfl (by kernel_rfl) (by kernel_rfl) (by kernel_rfl) (fun _ _ _ h => h) (Or.inl ⟨by kernel_rfl, fun wx hx => by go_simp⟩) hS ?_
        refine wpAnyH_take (i := 7) (v := .slice (some ⟨g, 0, none⟩) vn vc) rfl (by kernel_rfl) (by kernel_rfl) (by kernel_rfl) (fun _ _ _ h => h) (Or.inl ⟨by kernel_rfl, fun wx hx => by obtain ⟨hx1, hx2⟩ := HK.out wx hx; go_simp⟩) hS ?_
        refine wpAnyH_take (i := 8) (v := .int .i64 (vn : Int)) rfl (by kernel_rfl) (by kernel_rfl) (by kernel_rfl) (fun _ _ _ h => h) (Or.inl ⟨by kernel_rfl, fun wx hx => by go_simp⟩) hS ?_
        refine wpAnyH_take (i := 9) (v := .int .i64 (l : Int)) rfl (by kernel_rfl) (by kernel_rfl) (by kernel_rfl) (fun _ _ _ h => h) (Or.inl ⟨by kernel_rfl, fun wx hx => by go_simp⟩) hS ?_
        refine wpAnyH_take (i := 10) (v := .pointer (some ⟨g, l, none⟩)) rfl (by kernel_rfl) (by kernel_rfl) (by kernel_rfl) (fun _ _ _ h => h) (Or.inl ⟨by kernel_rfl, fun wx hx => by go_simp⟩) hS ?_
        refine wpAnyH_take (i := 12) (v := .string str) rfl (by kernel_rfl) (by kernel_rfl) (by kernel_rfl) (fun _ _ _ h => h) (Or.inl ⟨by kernel_rfl, fun wx hx => by go_simp⟩) hS ?_
        refine wpAnyH_take (i := 13) (v := .int .i64 (k : Int)) rfl (by kernel_rfl) (by kernel_rfl) (by kernel_rfl) (fun _ _ _ h => h) (Or.inl ⟨by kernel_rfl, fun wx hx => by go_simp⟩) hS ?_
        refine wpAnyH_take (i := 14) (v := .int .u8 (48 + (b : Int))) rfl (by kernel_rfl) (by kernel_rfl) (by kernel_rfl) (fun _ _ _ h => h) (Or.inl ⟨by kernel_rfl, fun wx hx => by go_simp⟩) hS ?_
        refine wpAnyH_take (i := 15) (v := .int .u8 (b : Int)) rfl (by kernel_rfl) (by kernel_rfl) (by kernel_rfl) (fun _ _ _ h => h) (Or.inl ⟨by kernel_rfl, fun wx hx => by go_simp⟩) hS ?_
        refine wpAnyH_take (i := 16) (v := .pointer (some ⟨p, 0, none⟩)) rfl (by kernel_rfl) (by kernel_rfl) (by kernel_rfl) (fun _ _ _ h => h) (Or.inl ⟨by kernel_rfl, fun wx hx => by go_simp⟩) hS ?_
        refine wpAnyH_take (i := 17) (v := .pointer (some ⟨p, 0, none⟩)) rfl (by kernel_rfl) (by kernel_rfl) (by kernel_rfl) (fun _ _ _ h => h) (Or.inl ⟨by kernel_rfl, fun wx hx => by go_simp⟩) hS ?_
        refine wpAnyH_take (i := 18) (v := .pointer (some ⟨p, 1, none⟩)) rfl (by kernel_rfl) (by kernel_rfl) (by kernel_rfl) (fun _ _ _ h => h) (Or.inl ⟨by kernel_rfl, fun wx hx => by go_simp⟩) hS ?_
        refine wpAnyH_take (i := 19) (v := .int .i64 (m : Int)) rfl (by kernel_rfl) (by kernel_rfl) (by kernel_rfl) (fun _ _ _ h => h) (Or.inl ⟨by kernel_rfl, fun wx hx => by obtain ⟨hx1, hx2⟩ := HK.out wx hx; go_simp⟩) hS ?_
        refine wpAnyH_take (i := 20) (v := .int .u8 (sh : Int)) rfl (by kernel_rfl) (by kernel_rfl) (by kernel_rfl) (fun _ _ _ h => h) (Or.inl ⟨by kernel_rfl, fun wx hx => by go_simp⟩) hS ?_
        refine wpAnyH_ready (rs := [11]) (by kernel_rfl) (by simp) (AllReadyH.cons rfl (fun Kc hK => ?_) AllReadyH.nil)
        go_simp
        refine hK.out _ _ hS (fun hS => ?_)
        clear hK
        refine wpAnyH_take (i := 21) (v := .int .u8 ((y + sh : Nat) : Int)) rfl (by kernel_rfl) (by kernel_rfl) (by kernel_rfl) (fun _ _ _ h => h) (Or.inl ⟨by kernel_rfl, fun wx hx => by go_simp⟩) hS ?_
        refine wpAnyH_take (i := 22) (v := .pointer (some ⟨g, l, none⟩)) rfl (by kernel_rfl) (by kernel_rfl) (by kernel_rfl) (fun _ _ _ h => h) (Or.inl ⟨by kernel_rfl, fun wx hx => by go_simp⟩) hS ?_
        refine wpAnyH_ready (rs := [23]) (by kernel_rfl) (by simp) (AllReadyH.cons rfl (fun Kc hK => ?_) AllReadyH.nil)
        go_simp
        obtain ⟨U, HU⟩ : ∃ x, Hid ((W.setCell ⟨g, l, none⟩ (.int .u8 ((y : Int) + (sh : Int)))).drew = x) := ⟨_, ⟨rfl⟩⟩
        rw [HU.out]
        have HCU : Hid (Chg [g] W U) := ⟨by rw [← HU.out]; exact ((Chg.refl [g] W).setCell (.inl (by simp)) _).drew⟩
        have HPU : Hid (U.heap[p]? = some (.cells #[.slice (some ⟨g, 0, none⟩) vn vc, .int .i64 (m : Int)] 65 (0, 0))) := ⟨(HCU.out.block p (Array.getElem?_eq_some_iff.1 HPW.out).1 (by simpa using fun e => hgp e.symm)).trans HPW.out⟩
        have HOU : Hid (OwnY U base (.slice (some ⟨g, 0, none⟩) vn vc) (B0.set l ((y : Int) + (sh : Int)))) := ⟨by rw [← HU.out]; exact own_far (OwnB.stored HOW.out hgb l ((y : Int) + (sh : Int))).1 (Chg.refl (X := []) _).drew (fun _ _ => by simp)⟩
        have HBU : Hid (Below base w U) := ⟨HBW2.out.trans (HCU.out.below (Nat.le_trans hbase HBW2.out.size) (fun x hx => by simp at hx; rw [hx]; exact hgb))⟩
        refine hK.out _ _ (fun kk hk1 hk2 => HCU.out.block kk hk1 (by simpa using hk2)) (fun hS => ?_)
        clear hK cg cg' fg
        refine wpAnyH_done (by kernel_rfl) ?_ _
        go_simp
        go_wp2_with fail
        go_roundg (N - (k + 1))
        case measure => omega
        case rel =>
          refine ⟨k + 1, by omega, by omega, by go_num, ⟨?_⟩, HBU⟩
          rw [HNx.out]
          refine ⟨.slice (some ⟨g, 0, none⟩) vn vc, ?_, ?_⟩
          · unfold wput
            simp only
            rw [Hm.out]
            exact HPU.out
          · unfold wput
            simp only
            rw [Hm.out, HnB.out, Hl.out, Hy.out.1, Hsh.out]
            exact HOU.out
    · obtain rfl : k = N := by omega
      have hnz : ¬ (k : Int) < (str.size : Int) := by omega
      have HF : Hid (WrB wo base p (wst s bs)) := ⟨by have := HW.out; rw [List.take_of_length_le (by rw [HN.out]; exact Nat.le_refl _)] at this; exact this⟩
      go_wp2_with fail
      go_end0
      exact ⟨rfl, HF.out, HB.out⟩
end
end Go.Proofs.Ytfecngncapenjaa
