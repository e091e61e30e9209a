/- Slices of spans; slices.IndexFunc over them. -/
import Derived.Test.YtcmibcmndiplbabX1
import Derived.Lib.SliceRun
namespace Go.Proofs.Ytcmibcmndiplbab
open Go.RowKit Go.Lib

/-- The cells of a span. -/
def enc2 (x : Int × Int) : List Value := [.int .i64 x.1, .int .i64 x.2]

/-- The value v is a slice that lies at the head of a block, and reads the spans l. -/
def SpAt (w : World) (b cap : Nat) (l : List (Int × Int)) : Prop :=
  l.length ≤ cap ∧ l.length ≤ 100000 ∧ b < w.heap.size ∧ ∀ j, j < l.length → w.cell? ⟨b, j * 2, none⟩ = some (.int .i64 (l.getD j default).1) ∧ w.cell? ⟨b, j * 2 + 1, none⟩ = some (.int .i64 (l.getD j default).2)

theorem SpAt.below {w w' : World} {b cap : Nat} {l : List (Int × Int)} (h : SpAt w b cap l) (hb : Below w.heap.size w w') : SpAt w' b cap l :=
  ⟨h.1, h.2.1, Nat.lt_of_lt_of_le h.2.2.1 hb.size, fun j hj => ⟨(hb.cell (p := ⟨b, j * 2, none⟩) h.2.2.1).trans (h.2.2.2 j hj).1, (hb.cell (p := ⟨b, j * 2 + 1, none⟩) h.2.2.1).trans (h.2.2.2 j hj).2⟩⟩

/-- What is asked of a predicate: it leaves all that lay there. -/
def Pred (g : Nat) (cs lb : Array Value) (p : Int × Int → Bool) (w : World) : Prop :=
  ∀ (W : World) (x : Int × Int), Below w.heap.size w W → Calls Try.prog g (cs.push (sp x) ++ lb) W fun e w' => e = .returned (.bool (p x)) ∧ Below w.heap.size w w'

/-- The first place at which p holds, or -1. -/
def idx (p : Int × Int → Bool) (l : List (Int × Int)) : Int := match l.findIdx? p with | some k => (k : Int) | none => -1

theorem idx_hit (p : Int × Int → Bool) (l : List (Int × Int)) (k : Nat) (hk : k < l.length) (h : p (l.getD k default) = true) (ha : ∀ j, j < k → p (l.getD j default) = false) : idx p l = k := by
  have : l.findIdx? p = some k := by
    rw [List.findIdx?_eq_some_iff_getElem]
    refine ⟨hk, by simpa [List.getD, List.getElem?_eq_getElem hk] using h, fun j hj => ?_⟩
    have := ha j hj
    simpa [List.getD, List.getElem?_eq_getElem (show j < l.length by omega)] using this
  unfold idx; rw [this]
theorem idx_none (p : Int × Int → Bool) (l : List (Int × Int)) (ha : ∀ j, j < l.length → p (l.getD j default) = false) : idx p l = -1 := by
  have : l.findIdx? p = none := by
    rw [List.findIdx?_eq_none_iff]
    intro x hx
    obtain ⟨j, hj, rfl⟩ := List.mem_iff_getElem.1 hx
    have := ha j hj
    simpa [List.getD, List.getElem?_eq_getElem hj] using this
  unfold idx; rw [this]

set_option maxHeartbeats 2000000 in
theorem index_any (g : Nat) (cs lb : Array Value) (p : Int × Int → Bool) (eg : ∀ args w, (callFunc g args).run Try.prog w = .ok (.enter g args) w) (b cap : Nat) (l : List (Int × Int)) (w : World) (hl : SpAt w b cap l) (hp : Pred g cs lb p w) :
    Calls Try.prog 28 #[.slice (some ⟨b, 0, none⟩) l.length cap, .func (.func g) cs lb] w fun e w' => e = .returned (.int .i64 (idx p l)) ∧ Below w.heap.size w w' := by
  obtain ⟨n, hn⟩ : ∃ n, l.length = n := ⟨_, rfl⟩
  have hbig : n ≤ 100000 := by rw [← hn]; exact hl.2.1
  have HL : Hid (SpAt w b cap l) := ⟨hl⟩
  have HP : Hid (Pred g cs lb p w) := ⟨hp⟩
  have hb := hl.2.2.1
  rw [hn]
  clear hl hp
  go_enter Try.func28, Try.ntmps28
  go_wp2
  go_loopg [5, 8] n (fun gg _ s8 wr => ∃ kk : Nat, kk ≤ n ∧ n - kk ≤ gg ∧ s8 = .int .i64 kk ∧ Hid (Below w.heap.size w wr) ∧ Hid (∀ j, j < kk → p (l.getD j default) = false))
  case atStart => exact ⟨0, Nat.zero_le _, by omega, rfl, ⟨Below.refl _ w⟩, ⟨fun j hj => absurd hj (Nat.not_lt_zero _)⟩⟩
  case round =>
    obtain ⟨kk, hkk, hg, rfl, BW, A⟩ := hrel
    by_cases hlt : kk < n
    · have hltz : (kk : Int) < (n : Int) := by omega
      have h2 := (HL.out.below BW.out).2.2.2 kk (by omega)
      have c1 := h2.1
      have c2 := h2.2
      have hcall := HP.out wr (l.getD kk default) BW.out
      unfold sp at hcall
      clear h2
      generalize hy : l.getD kk default = y at c1 c2 hcall
      have B : Hid (l.getD kk default = y) := ⟨hy⟩
      clear hy
      cases hq : p y with
      | true =>
        rw [hq] at hcall
        go_wp2_with fail
        refine hcall.mono ?_
        rintro e w' ⟨rfl, hb'⟩
        go_wp2
        go_ret
        exact ⟨by rw [idx_hit p l kk (by omega) (by rw [B.out]; exact hq) A.out]; rfl, hb'⟩
      | false =>
        rw [hq] at hcall
        go_wp2_with fail
        refine hcall.mono ?_
        rintro e w' ⟨rfl, hb'⟩
        go_wp2
        go_roundg (n - (kk + 1))
        case measure => omega
        case rel => exact ⟨kk + 1, by omega, by omega, by go_num, ⟨hb'⟩, ⟨fun j hj => by
          rcases Nat.lt_or_ge j kk with h | h
          · exact A.out j h
          · rw [show j = kk by omega, B.out]; exact hq⟩⟩
    · go_wp2
      go_ret
      exact ⟨by rw [idx_none p l (fun j hj => A.out j (by omega))]; rfl, BW.out⟩
end Go.Proofs.Ytcmibcmndiplbab
