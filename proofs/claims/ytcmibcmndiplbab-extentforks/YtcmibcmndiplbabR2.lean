/- The document's map: set, New. -/
import Derived.Test.YtcmibcmndiplbabR1
namespace Go.Proofs.Ytcmibcmndiplbab
open Go.RowKit Go.Lib Go.Shelf

def setF (T : List Bool) (a n : Nat) (tk : Bool) (i : Nat) : Bool := if a ≤ i ∧ i < a + n then tk else T.getD i false
def setB (T : List Bool) (a n : Nat) (tk : Bool) : List Bool := (List.range T.length).map (setF T a n tk)
theorem setB_length (T : List Bool) (a n : Nat) (tk : Bool) : (setB T a n tk).length = T.length := by simp [setB]
theorem setB_get (T : List Bool) (a n : Nat) (tk : Bool) (i : Nat) (hi : i < T.length) : (setB T a n tk).getD i false = setF T a n tk i := by simp [setB, hi]
theorem range_snoc {α : Type} (f : Nat → α) (k : Nat) : (List.range (k + 1)).map f = (List.range k).map f ++ [f k] := by simp [List.range_succ]

/-- What a call on the document's map leaves: its block q alone turns. -/
def Refs (w : World) (q : Nat) (A : Int) (base : Nat) (T : List Bool) (w' : World) : Prop :=
  (∃ v', RefAt w' q A base v' T ∧ ∀ g, v'.ownBlock = some g → w.heap.size ≤ g) ∧ Below base w w' ∧ ∀ k, k < w.heap.size → k ≠ q → w'.heap[k]? = w.heap[k]?
theorem cells_set2 {w : World} {p : Nat} {c0 c1 v : Value} {t : TypeId} (h : w.heap[p]? = some (.cells #[c0, c1] t (0, 0))) : (w.setCell ⟨p, 1, none⟩ v).heap[p]? = some (.cells #[c0, v] t (0, 0)) := heap_setCell_same w p 1 _ t v h

set_option maxHeartbeats 2000000 in
theorem set_any {w : World} {q : Nat} {A : Int} {base : Nat} {v : Value} {T : List Bool} (h : RefAt w q A base v T) (hbs : base ≤ w.heap.size) (a n : Nat) (tk : Bool) (ha : a ≤ 4096) (hn : n ≤ 4096) :
    Calls Try.prog 46 #[.pointer (some ⟨q, 0, none⟩), .int .i64 (a : Int), .int .i64 (n : Int), .bool tk] w fun e w' => e = .returned (.tuple #[]) ∧ Refs w q A base (setB T a n tk) w' := by
  obtain ⟨c0, c1⟩ := cells_row2 h.row
  obtain ⟨ao, cap, rfl, hcell⟩ := h.own.shape
  have hsm := h.small
  have hql := h.lt
  have HH : Hid (RefAt w q A base (.slice ao T.length cap) T) := ⟨h⟩
  have HC : Hid (∀ j, j < T.length → ∃ g, ao = some ⟨g, 0, none⟩ ∧ g < w.heap.size ∧ w.cell? ⟨g, j, none⟩ = some (.bool (T.getD j false))) := ⟨fun j hj => by
    obtain ⟨g, h1, h2⟩ := hcell j hj
    exact ⟨g, h1, by simpa using World.block_lt_of_cell? w _ h2, h2⟩⟩
  obtain ⟨N, hN⟩ : ∃ N, T.length = N := ⟨_, rfl⟩
  rw [hN] at c1 hsm
  have hown0 : OwnB (w.alloc (.cells #[] 4)) w.heap.size (.slice (some ⟨w.heap.size, 0, none⟩) 0 0) ((List.range 0).map (setF T a n tk)) := ⟨rfl, .inr ⟨w.heap.size, 0, #[], rfl, Nat.le_refl _, heap_alloc_new w _, Nat.le_refl _, by decide, rfl, rfl⟩⟩
  have hb0 : Below w.heap.size w (w.alloc (.cells #[] 4)) := (Below.refl _ w).alloc (Nat.le_refl _) _
  have nq : q ≠ w.heap.size := by omega
  clear h hcell c0
  go_enter Try.func46, Try.ntmps46
  go_wp2
  generalize w.alloc (.cells #[] 4) = w1 at hown0 hb0 ⊢
  go_loopg [8, 9] N (fun gg s8 s9 wr => ∃ kk : Nat, kk ≤ N ∧ N - kk ≤ gg ∧ s9 = .int .i64 (kk : Int) ∧ Hid (Below w.heap.size w wr) ∧ OwnB wr w.heap.size s8 ((List.range kk).map (setF T a n tk)))
  case atStart => exact ⟨0, Nat.zero_le _, by omega, rfl, ⟨hb0⟩, hown0⟩
  case round =>
    clear hown0 hb0
    obtain ⟨kk, hkk, hg, rfl, HB, hO⟩ := hrel
    have d1 : wr.cell? ⟨q, 1, none⟩ = some (.slice ao N cap) := (HB.out.cell (p := ⟨q, 1, none⟩) hql).trans c1
    by_cases hlt : kk < N
    · have hltz : (kk : Int) < (N : Int) := by omega
      obtain ⟨g, rfl, hgl, cg0⟩ := HC.out kk (by omega)
      have cg : wr.cell? ⟨g, kk, none⟩ = some (.bool (T.getD kk false)) := (HB.out.cell (p := ⟨g, kk, none⟩) hgl).trans cg0
      have HT : Hid ((List.range (kk + 1)).map (setF T a n tk) = (List.range kk).map (setF T a n tk) ++ [setF T a n tk kk]) := ⟨range_snoc _ _⟩
      have hFe : setF T a n tk kk = if a ≤ kk ∧ kk < a + n then tk else T.getD kk false := rfl
      generalize T.getD kk false = y at cg hFe
      generalize setF T a n tk kk = z at HT hFe
      have HO : Hid (OwnB wr w.heap.size u8 ((List.range kk).map (setF T a n tk))) := ⟨hO⟩
      have hlen : ((List.range kk).map (setF T a n tk)).length ≤ 1000000 := by simp; omega
      have hsz := HB.out.size
      clear hO cg0
      by_cases h1 : a ≤ kk
      · have hw : wrap64 ((kk : Int) - (a : Int)) = (kk : Int) - a := IntWalk.wrap64_in _ ⟨by omega, by omega⟩
        by_cases h2 : kk < a + n
        · obtain rfl : z = tk := by rw [hFe, if_pos ⟨h1, h2⟩]
          clear hFe
          go_wp2_with (at_builtin; refine wp_app1B rfl (.tmp 39) (.tmp 41) rfl rfl HO.out rfl hlen hsz ?_; intro v' w'' hv' hb2)
          have hbz := HB.out.trans hb2
          go_roundg (N - (kk + 1))
          case measure => omega
          case rel => exact ⟨kk + 1, by omega, by omega, by go_num, ⟨hbz⟩, by rw [HT.out]; exact hv'⟩
        · obtain rfl : z = y := by rw [hFe, if_neg (by omega)]
          clear hFe
          go_wp2_with (at_builtin; refine wp_app1B rfl (.tmp 39) (.tmp 41) rfl rfl HO.out rfl hlen hsz ?_; intro v' w'' hv' hb2)
          have hbz := HB.out.trans hb2
          go_roundg (N - (kk + 1))
          case measure => omega
          case rel => exact ⟨kk + 1, by omega, by omega, by go_num, ⟨hbz⟩, by rw [HT.out]; exact hv'⟩
      · obtain rfl : z = y := by rw [hFe, if_neg (by omega)]
        clear hFe
        go_wp2_with (at_builtin; refine wp_app1B rfl (.tmp 39) (.tmp 41) rfl rfl HO.out rfl hlen hsz ?_; intro v' w'' hv' hb2)
        have hbz := HB.out.trans hb2
        go_roundg (N - (kk + 1))
        case measure => omega
        case rel => exact ⟨kk + 1, by omega, by omega, by go_num, ⟨hbz⟩, by rw [HT.out]; exact hv'⟩
    · obtain rfl : kk = N := by omega
      have HO : Hid (OwnB wr w.heap.size u8 (setB T a n tk)) := ⟨by unfold setB; rw [hN]; exact hO⟩
      have hrq : wr.heap[q]? = some (.cells #[.int .i64 A, .slice ao kk cap] 79 (0, 0)) := by rw [HB.out.block q hql, ← hN]; exact HH.out.row
      have f1 : wr.frozen? ⟨q, 1, none⟩ = false := frozen_of_row wr q 1 _ 79 hrq
      have HRQ : Hid (wr.heap[q]? = some (.cells #[.int .i64 A, .slice ao kk cap] 79 (0, 0))) := ⟨hrq⟩
      clear hO hrq
      obtain ⟨ao8, cp8, rfl, _⟩ := HO.out.shape
      generalize (setB T a n tk).length = n8 at HO ⊢
      go_wp2
      go_returns
      have hge : ∀ g, (Value.slice ao8 n8 cp8).ownBlock = some g → w.heap.size ≤ g := owns_ge HO.out
      refine ⟨rfl, ⟨_, ⟨cells_set2 HRQ.out, ?_, HH.out.pb, fun e => ?_, by rw [setB_length, hN]; exact hsm⟩, hge⟩, (HB.out.mono hbs).setCell HH.out.pb _, fun k hk hkq => ?_⟩
      · have ho := owns_mono HO.out hbs
        refine ⟨ho.1, ?_⟩
        rcases ho.2 with hn | ⟨g, cap', cur, e, hb', hh, r⟩
        · exact .inl hn
        · have hgq : g ≠ q := by
            have := hge g (by rw [e]; rfl)
            omega
          exact .inr ⟨g, cap', cur, e, hb', (heap_setCell_other wr ⟨q, 1, none⟩ g _ hgq).trans hh, r⟩
      · have := hge q e; omega
      · exact (heap_setCell_other wr ⟨q, 1, none⟩ k _ hkq).trans (HB.out.block k hk)

def NewRef (w : World) (A B : Int) (e : Ending) (w' : World) : Prop := ∃ q v, e = .returned (.tuple #[.pointer (some ⟨q, 0, none⟩), .int .i64 0]) ∧ RefAt w' q A w.heap.size v (List.replicate (B - A).toNat false) ∧ Below w.heap.size w w'

set_option maxHeartbeats 2000000 in
theorem newref_any (A B : Int) (w : World) (h0 : 0 ≤ A) (h1 : A ≤ B) (h2 : B ≤ 4096) : Calls Try.prog 27 #[.int .i64 A, .int .i64 B] w (NewRef w A B) := by
  have n1 : ¬ A < 0 := by omega
  have n2 : ¬ B < A := by omega
  have n3 : ¬ 4096 < B := by omega
  obtain ⟨q, Hq⟩ : ∃ q, Hid (q = w.heap.size) := ⟨_, ⟨rfl⟩⟩
  have hrow0 : (w.alloc (.cells #[.int .i64 A, .slice none 0 0] 79)).heap[q]? = some (.cells #[.int .i64 A, .slice none 0 0] 79 (0, 0)) := by rw [Hq.out]; exact heap_alloc_new w _
  have hb0 : Below w.heap.size w (w.alloc (.cells #[.int .i64 A, .slice none 0 0] 79)) := (Below.refl _ w).alloc (Nat.le_refl _) _
  have hown0 : OwnB (w.alloc (.cells #[.int .i64 A, .slice none 0 0] 79)) (q + 1) (.slice none 0 0) (List.replicate 0 false) := World.ownsRow_nil _ _ _ _
  have hs0 : q + 1 ≤ (w.alloc (.cells #[.int .i64 A, .slice none 0 0] 79)).heap.size := by rw [Hq.out]; simp
  go_enter Try.func27, Try.ntmps27
  go_wp2
  rw [← Hq.out]
  generalize w.alloc (.cells #[.int .i64 A, .slice none 0 0] 79) = w1 at hown0 hb0 hrow0 hs0 ⊢
  go_loopg [7] (B - A).toNat (fun gg s7 wr => ∃ (kk : Nat) (v : Value), A + (kk : Int) ≤ B ∧ (B - A).toNat - kk ≤ gg ∧ s7 = .int .i64 (A + (kk : Int)) ∧ Hid (Below w.heap.size w wr) ∧ Hid (wr.heap[q]? = some (.cells #[.int .i64 A, v] 79 (0, 0))) ∧ Hid (OwnB wr (q + 1) v (List.replicate kk false)) ∧ q + 1 ≤ wr.heap.size)
  case atStart => exact ⟨0, _, by omega, by omega, by simp, ⟨hb0⟩, ⟨hrow0⟩, ⟨hown0⟩, hs0⟩
  case round =>
    clear hown0 hb0 hrow0 hs0
    obtain ⟨kk, v, hkk, hg, rfl, HB, HR, HO, hs⟩ := hrel
    obtain ⟨t, ht⟩ : ∃ t, A + (kk : Int) = t := ⟨_, rfl⟩
    rw [ht]
    have d1 : wr.cell? ⟨q, 1, none⟩ = some v := (cells_row2 HR.out).2
    by_cases hlt : t < B
    · have hlen : (List.replicate kk false).length ≤ 1000000 := by simp; omega
      go_wp2_with (at_builtin; refine wp_app1B rfl (.tmp 32) (.tmp 33) rfl rfl HO.out rfl hlen hs ?_; intro v' w'' hv' hb2; have e1 : w''.cell? ⟨q, 1, none⟩ = some v := (hb2.cell (p := ⟨q, 1, none⟩) (by simp)).trans d1; have hrw : w''.heap[q]? = some (.cells #[.int .i64 A, v] 79 (0, 0)) := (hb2.block q (by omega)).trans HR.out; have f1 : w''.frozen? ⟨q, 1, none⟩ = false := frozen_of_row w'' q 1 _ 79 hrw; have HRW : Hid (w''.heap[q]? = some (.cells #[.int .i64 A, v] 79 (0, 0))) := ⟨hrw⟩; obtain ⟨aov, cpv, rfl, _⟩ := hv'.shape; have HV : Hid (OwnB w'' (q + 1) (.slice aov (List.replicate kk false ++ [false]).length cpv) (List.replicate kk false ++ [false])) := ⟨hv'⟩; have HB2 : Hid (Below (q + 1) wr w'') := ⟨hb2⟩; clear hrw hv' hb2 d1)
      go_roundg ((B - A).toNat - (kk + 1))
      case measure => omega
      case rel =>
        have hge := owns_ge HV.out
        refine ⟨kk + 1, _, by omega, by omega, by rw [← ht]; go_num, ?_, ⟨cells_set2 HRW.out⟩, ?_, ?_⟩
        · have hq' : w.heap.size ≤ q := by rw [Hq.out]; exact Nat.le_refl _
          exact ⟨(HB.out.trans (HB2.out.mono (by omega))).setCell hq' _⟩
        · have ho := HV.out
          rw [show List.replicate kk false ++ [false] = List.replicate (kk + 1) false by rw [List.replicate_succ']] at ho
          have ho2 : OwnB w'' (q + 1) (.slice aov (kk + 1) cpv) (List.replicate (kk + 1) false) := by simpa using ho
          refine ⟨ho2.1, ?_⟩
          rcases ho2.2 with hn | ⟨g, cap', cur, e, hb', hh, r⟩
          · exact .inl hn
          · have hgq : g ≠ q := by omega
            exact .inr ⟨g, cap', cur, e, hb', (heap_setCell_other w'' ⟨q, 1, none⟩ g _ hgq).trans hh, r⟩
        · have := HB2.out.size; simp; omega
    · have hk : kk = (B - A).toNat := by omega
      subst hk
      go_wp2
      go_ret2
      refine ⟨q, v, rfl, ⟨HR.out, owns_mono HO.out (by rw [Hq.out]; omega), by rw [Hq.out]; exact Nat.le_refl _, fun e => ?_, by simp; omega⟩, HB.out⟩
      have := owns_ge HO.out q e; omega
end Go.Proofs.Ytcmibcmndiplbab
