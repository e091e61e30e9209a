/- The document's Take. -/
import Derived.Test.YtcmibcmndiplbabR4
namespace Go.Proofs.Ytcmibcmndiplbab
open Go.RowKit Go.Lib Go.Shelf

theorem Own2.shape {w : World} {base : Nat} {e : TypeId} {v : Value} {l : List (Int × Int)} (h : Own2 w base e v l) : ∃ ao cap, v = .slice ao l.length cap ∧ ∀ j, j < l.length → ∃ g, ao = some ⟨g, 0, none⟩ ∧ (base ≤ g ∧ g < w.heap.size) ∧ w.cell? ⟨g, j * 2, none⟩ = some (.int .i64 (l.getD j default).1) ∧ w.cell? ⟨g, j * 2 + 1, none⟩ = some (.int .i64 (l.getD j default).2) := by
  rcases h.2 with ⟨rfl, h0⟩ | ⟨g, cap, cur, rfl, hb, hh, h1, h2, h3, h4⟩
  · exact ⟨none, 0, by rw [h0], fun j hj => by omega⟩
  · refine ⟨_, cap, rfl, fun j hj => ⟨g, rfl, ⟨hb, (Array.getElem?_eq_some_iff.1 hh).1⟩, ?_⟩⟩
    have e1 : ∀ i, i < l.length * 2 → w.cell? ⟨g, i, none⟩ = (flat2 l)[i]? := by
      intro i hi
      have e2 : (cur.toList.take (l.length * 2))[i]? = (flat2 l)[i]? := by rw [h4]
      rw [List.getElem?_take, if_pos hi] at e2
      simp [World.cell?, hh] at e2 ⊢
      exact e2
    rw [e1 _ (by omega), e1 _ (by omega)]
    exact flat2_get l j hj

theorem cell_same {w w' : World} {g : Nat} (h : w'.heap[g]? = w.heap[g]?) (i : Nat) : w'.cell? ⟨g, i, none⟩ = w.cell? ⟨g, i, none⟩ := by simp [World.cell?, h]
theorem getD_map_rn (l : List (Int × Int)) (j : Nat) (hj : j < l.length) : (l.map rn).getD j default = rn (l.getD j default) := by
  simp [List.getD, List.getElem?_eq_getElem hj]

theorem takeref_arg (q : Nat) (n : Int) (w : World) (hn : n < 1) : Calls Try.prog 39 #[.pointer (some ⟨q, 0, none⟩), .int .i64 n] w fun e w' => e = .returned (.tuple #[.int .i64 0, .int .i64 2]) ∧ w = w' := by
  go_enter Try.func39, Try.ntmps39
  go_wp2
  go_ret2
  exact ⟨rfl, rfl⟩

theorem Refs.of_below {w w1 w2 : World} {q : Nat} {A : Int} {base : Nat} {T : List Bool} (hb : Below w.heap.size w w1) (hbs : base ≤ w.heap.size) (h : Refs w1 q A base T w2) : Refs w q A base T w2 := by
  obtain ⟨⟨v', hR, hg⟩, hB, hK⟩ := h
  exact ⟨⟨v', hR, fun g e => Nat.le_trans hb.size (hg g e)⟩, (hb.mono hbs).trans hB, fun k hk h1 => (hK k (Nat.lt_of_lt_of_le hk hb.size) h1).trans (hb.block k hk)⟩

/-- What the document's Take leaves. -/
def TakesRef (w : World) (q : Nat) (A : Int) (base : Nat) (l : List (Int × Int)) (T : List Bool) (n : Int) (e : Ending) (w' : World) : Prop :=
  (idx (fun x => decide (n ≤ siz x)) l = -1 ∧ e = .returned (.tuple #[.int .i64 0, .int .i64 8]) ∧ Below w.heap.size w w') ∨
  ∃ i : Nat, idx (fun x => decide (n ≤ siz x)) l = i ∧ i < l.length ∧ n ≤ siz (l.getD i default) ∧ e = .returned (.tuple #[.int .i64 (l.getD i default).1, .int .i64 0]) ∧ Refs w q A base (setB T ((l.getD i default).1 - A).toNat n.toNat true) w'

set_option maxHeartbeats 4000000 in
theorem takeref_any {w : World} {q : Nat} {A B : Int} {base : Nat} {v : Value} {T : List Bool} {l : List (Int × Int)} (h : RefAt w q A base v T) (hS : Says A B l T) (hA : 0 ≤ A) (hB : B ≤ 4096) (hbs : base ≤ w.heap.size) (n : Int) (hn : 1 ≤ n) :
    Calls Try.prog 39 #[.pointer (some ⟨q, 0, none⟩), .int .i64 n] w (TakesRef w q A base l T n) := by
  have hcon := runsref_any h hS hA hB
  have n1 : ¬ n < 1 := by omega
  have HH : Hid (RefAt w q A base v T) := ⟨h⟩
  have HS : Hid (Says A B l T) := ⟨hS⟩
  clear h hS
  go_enter Try.func39, Try.ntmps39
  go_wp2_with (go_at_call 37; refine hcon.mono ?_; rintro e w1 ⟨v1, rfl, hv1, hb1⟩; obtain ⟨ao, cap, rfl, hc1⟩ := hv1.shape; clear hcon hv1)
  rw [List.length_map] at hc1
  try simp only [List.length_map]
  have HC : Hid (∀ j, j < l.length → ∃ g, ao = some ⟨g, 0, none⟩ ∧ (w.heap.size ≤ g ∧ g < w1.heap.size) ∧ w1.cell? ⟨g, j * 2, none⟩ = some (.int .i64 (l.getD j default).1) ∧ w1.cell? ⟨g, j * 2 + 1, none⟩ = some (.int .i64 (siz (l.getD j default)))) := ⟨fun j hj => by
    have := hc1 j hj
    rw [getD_map_rn l j hj] at this
    exact this⟩
  have HB1 : Hid (Below w.heap.size w w1) := ⟨hb1⟩
  have HR1 : Hid (RefAt w1 q A base v T) := ⟨HH.out.below hb1⟩
  have d0 : w1.cell? ⟨q, 0, none⟩ = some (.int .i64 A) := (cells_row2 HR1.out.row).1
  have hl9 : l.length ≤ 99000 := by have := HS.out.can.length; omega
  obtain ⟨N, hN⟩ : ∃ N, l.length = N := ⟨_, rfl⟩
  rw [hN] at hl9 ⊢
  clear hc1 hb1
  go_loopg [7] N (fun gg s7 wr => ∃ kk : Nat, kk ≤ N ∧ N - kk ≤ gg ∧ s7 = .int .i64 (kk : Int) ∧ wr = w1 ∧ Hid (∀ j, j < kk → decide (n ≤ siz (l.getD j default)) = false))
  case atStart => exact ⟨0, Nat.zero_le _, by omega, rfl, rfl, ⟨fun j hj => absurd hj (Nat.not_lt_zero _)⟩⟩
  case round =>
    obtain ⟨kk, hkk, hg, rfl, rfl, HA⟩ := hrel
    by_cases hlt : kk < N
    · have hltz : (kk : Int) < (N : Int) := by omega
      obtain ⟨g, rfl, hgl, k0, k1⟩ := HC.out kk (by omega)
      have hm : l.getD kk default ∈ l := by simp [List.getD, List.getElem?_eq_getElem (show kk < l.length by omega)]
      have hge := HS.out.can.ge _ hm
      obtain ⟨xa, xb, hx⟩ : ∃ xa xb, l.getD kk default = (xa, xb) := ⟨_, _, rfl⟩
      have HX : Hid (l.getD kk default = (xa, xb)) := ⟨hx⟩
      rw [hx] at k0 k1 hge
      simp only [siz] at k0 k1 hge
      clear hm hx
      generalize hsz : xb - xa = sz at k1
      by_cases hfit : n ≤ sz
      · have hxA : wrap64 (xa - A) = xa - A := IntWalk.wrap64_in _ ⟨by omega, by omega⟩
        obtain ⟨a, ha⟩ : ∃ a : Nat, xa - A = (a : Int) := Int.eq_ofNat_of_zero_le (by omega)
        obtain ⟨m, hm⟩ : ∃ m : Nat, n = (m : Int) := Int.eq_ofNat_of_zero_le (by omega)
        have hwa : IntKind.i64.wrap (a : Int) = a := by rw [IntKind.wrap_i64]; omega
        have hset := fun W (hW : RefAt W q A base v T) (hb : base ≤ W.heap.size) => set_any hW hb a m true (by omega) (by omega)
        have HI : Hid (idx (fun x => decide (n ≤ siz x)) l = (kk : Int) ∧ kk < l.length ∧ n ≤ siz (l.getD kk default)) := ⟨by
          have hs : n ≤ siz (l.getD kk default) := by rw [HX.out]; unfold siz; simp only; omega
          exact ⟨idx_hit _ l kk (by omega) (by simpa using hs) HA.out, by omega, hs⟩⟩
        have HT : Hid (setB T ((l.getD kk default).1 - A).toNat n.toNat true = setB T a m true) := ⟨by rw [HX.out]; simp only; rw [ha, hm]; rfl⟩
        subst hm
        go_wp2
        go_region_with (go_at_call 46
                        go_loud (
                        refine (hset (World.drew _) (RefAt.kept (w' := World.drew _) HR1.out rfl (fun _ _ => rfl)) (Nat.le_trans hbs HB1.out.size)).mono ?_
                        rintro e w2 ⟨rfl, hR2⟩
                        have HRR : Hid (Refs w q A base (setB T a m true) w2) := ⟨Refs.of_below HB1.out hbs ⟨hR2.1, ⟨hR2.2.1.os, hR2.2.1.tape, hR2.2.1.output, hR2.2.1.size, hR2.2.1.block⟩, hR2.2.2⟩⟩
                        have hK := hR2.2.2
                        have e0 : w2.cell? ⟨g, kk * 2, none⟩ = some (.int .i64 xa) := (cell_same (hK g hgl.2 (by have := HH.out.lt; omega)) _).trans k0
                        clear hR2 hK hset))
        all_goals go_wp2
        all_goals go_ret2
        all_goals exact .inr ⟨kk, HI.out.1, HI.out.2.1, HI.out.2.2, by rw [HX.out]; rfl, by rw [HT.out]; exact HRR.out⟩
      · have HN : Hid (decide (n ≤ siz (l.getD kk default)) = false) := ⟨by rw [HX.out]; unfold siz; simp only; simp; omega⟩
        go_wp2
        go_roundg (N - (kk + 1))
        case measure => omega
        case rel => exact ⟨kk + 1, by omega, by omega, by go_num, rfl, ⟨fun j hj => by
          rcases Nat.lt_or_ge j kk with h | h
          · exact HA.out j h
          · rw [show j = kk by omega]; exact HN.out⟩⟩
    · have HF : Hid (idx (fun x => decide (n ≤ siz x)) l = -1) := ⟨idx_none _ l (fun j hj => HA.out j (by omega))⟩
      go_wp2
      go_ret2
      exact .inl ⟨HF.out, rfl, HB1.out⟩
end Go.Proofs.Ytcmibcmndiplbab
