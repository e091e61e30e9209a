/- The document's disk: strings, its state in memory; Zeros, trips, Trip. -/
import Derived.Test.YtmcikhdfpmkpnaaL1
import Derived.Laws.BytesArg
import Derived.Laws.IdiomStrings
import Derived.Laws.Concat
namespace Go.Proofs.Ytmcikhdfpmkpnaa
open Go.RowKit Go.Maps Go.Sort Go.Shelf

theorem str_append (a b : List Int) : strOfNums a ++ strOfNums b = strOfNums (a ++ b) := by
  apply ByteArray.ext
  simp [strOfNums, ByteArray.data_append]
theorem str_take (l : List Int) (k : Nat) : (strOfNums l).extract 0 k = strOfNums (l.take k) := by
  apply ByteArray.ext
  simp [strOfNums, ByteArray.data_extract, List.map_take]
theorem str_drop (l : List Int) (k : Nat) : (strOfNums l).extract k l.length = strOfNums (l.drop k) := by
  apply ByteArray.ext
  rw [ByteArray.data_extract]
  simp [strOfNums, List.map_drop]
  exact List.take_of_length_le (by simp)
theorem str_nil : strOfNums [] = ⟨#[]⟩ := rfl
theorem str_zero : (⟨#[0]⟩ : ByteArray) = strOfNums [0] := rfl

/-- A part, as cells. -/
def pe (s : Sec) : List Value := [.string (strOfNums s.1), .string (strOfNums (s.2.getD [])), .bool s.2.isSome]
def fp (S : List Sec) : List Value := S.flatMap pe
theorem fp_append (S T : List Sec) : fp (S ++ T) = fp S ++ fp T := by simp [fp]
theorem fp_length (S : List Sec) : (fp S).length = S.length * 3 := by
  induction S with
  | nil => rfl
  | cons s S ih => simp only [fp, List.flatMap_cons, List.length_append] at ih ⊢; rw [ih]; simp [pe]; omega
theorem fp_one (S : List Sec) : ∀ u ∈ fp S, u.oneCell' = true := by
  intro u hu
  simp only [fp, List.mem_flatMap] at hu
  obtain ⟨x, _, hx⟩ := hu
  simp [pe] at hx
  rcases hx with rfl | rfl | rfl <;> rfl
theorem fp_get (S : List Sec) : ∀ j, j < S.length → (fp S)[j * 3]? = some (.string (strOfNums (sec S j).1)) ∧ (fp S)[j * 3 + 1]? = some (.string (strOfNums ((sec S j).2.getD []))) ∧ (fp S)[j * 3 + 2]? = some (.bool (sec S j).2.isSome) := by
  induction S with
  | nil => intro j hj; simp at hj
  | cons x S ih =>
    intro j hj
    match j with
    | 0 => exact ⟨rfl, rfl, rfl⟩
    | j + 1 =>
      have h := ih j (by simpa using hj)
      have e : fp (x :: S) = .string (strOfNums x.1) :: .string (strOfNums (x.2.getD [])) :: .bool x.2.isSome :: fp S := rfl
      have e2 : sec (x :: S) (j + 1) = sec S j := by simp [sec]
      rw [e, e2, show (j + 1) * 3 = j * 3 + 1 + 1 + 1 by omega]
      simpa using h

def OwnP (w : World) (base : Nat) (v : Value) (S : List Sec) : Prop := w.ownsRow base 54 3 v S.length (fp S)
/-- The document's disk at block q. -/
structure RfX (w : World) (q base : Nat) (v : Value) (ar : Int) (d : Dk) : Prop where
  row : w.heap[q]? = some (.cells #[v, .int .i64 ar, .bool d.down, .int .i64 d.life] 52 (0, 0))
  own : OwnP w base v d.S
  ok : ∀ s ∈ d.S, OkS s
  len : d.S.length ≤ 4096
  trip : d.down = false → ar = d.trip
  rng : 0 ≤ ar ∧ ar ≤ 9223372036854775807
  bp : base ≤ q
def Rf (w : World) (q base : Nat) (d : Dk) : Prop := ∃ v ar, RfX w q base v ar d

section
variable {w w' : World} {q base : Nat} {v : Value} {ar : Int} {d : Dk}
theorem RfX.rf (h : RfX w q base v ar d) : Rf w q base d := ⟨v, ar, h⟩
theorem RfX.lt (h : RfX w q base v ar d) : q < w.heap.size := (Array.getElem?_eq_some_iff.1 h.row).1
theorem owns_kept {base : Nat} {e : TypeId} {k n : Nat} {v : Value} {xs : List Value} (h : w.ownsRow base e k v n xs) (hb : ∀ g, v.ownBlock = some g → w'.heap[g]? = w.heap[g]?) : w'.ownsRow base e k v n xs := by
  refine ⟨h.1, ?_⟩
  rcases h.2 with hn | ⟨g, cap, cur, rfl, hb', hh, r⟩
  · exact .inl hn
  · exact .inr ⟨g, cap, cur, rfl, hb', (hb g rfl).trans hh, r⟩
theorem RfX.kept (h : RfX w q base v ar d) (h1 : w'.heap[q]? = w.heap[q]?) (h2 : ∀ g, v.ownBlock = some g → w'.heap[g]? = w.heap[g]?) : RfX w' q base v ar d :=
  { h with row := h1.trans h.row, own := owns_kept h.own h2 }
theorem RfX.vlt (h : RfX w q base v ar d) {g : Nat} (hg : v.ownBlock = some g) : base ≤ g ∧ g < w.heap.size := h.own.lt g hg
theorem RfX.below (h : RfX w q base v ar d) (hb : Below w.heap.size w w') : RfX w' q base v ar d := h.kept (hb.block q h.lt) (fun _ hg => hb.block _ (h.vlt hg).2)
theorem RfX.chg {X : List Nat} (h : RfX w q base v ar d) (hc : Chg X w w') (hq : q ∉ X) (hv : ∀ g, v.ownBlock = some g → g ∉ X) : RfX w' q base v ar d := h.kept (hc.block q h.lt hq) (fun g hg => hc.block g (h.vlt hg).2 (hv g hg))
theorem RfX.elem (h : RfX w q base v ar d) {g : Nat} (hg : v.ownBlock = some g) : ∃ cur, w.heap[g]? = some (.cells cur 54 (0, 0)) := by
  rcases h.own.2 with ⟨rfl, _⟩ | ⟨g', cap, cur, rfl, hb', hh, r⟩
  · simp [Value.ownBlock] at hg
  · simp [Value.ownBlock] at hg; subst hg; exact ⟨cur, hh⟩
theorem RfX.vne (h : RfX w q base v ar d) {g : Nat} (hg : v.ownBlock = some g) : g ≠ q := by
  intro e
  obtain ⟨cur, hc⟩ := h.elem hg
  have := h.row
  rw [← e, hc] at this
  simp at this
theorem RfX.cells (h : RfX w q base v ar d) : w.cell? ⟨q, 0, none⟩ = some v ∧ w.cell? ⟨q, 1, none⟩ = some (.int .i64 ar) ∧ w.cell? ⟨q, 2, none⟩ = some (.bool d.down) ∧ w.cell? ⟨q, 3, none⟩ = some (.int .i64 d.life) := by
  have hr := h.row
  refine ⟨?_, ?_, ?_, ?_⟩ <;> simp [World.cell?, hr]
theorem RfX.frozen (h : RfX w q base v ar d) (j : Nat) : w.frozen? ⟨q, j, none⟩ = false := frozen_of_row w q j _ 52 h.row
theorem OwnP.shape {S : List Sec} (h : OwnP w base v S) : ∃ ao cap, v = .slice ao S.length cap ∧ ∀ j, j < S.length → ∃ g, ao = some ⟨g, 0, none⟩ ∧ w.cell? ⟨g, j * 3, none⟩ = some (.string (strOfNums (sec S j).1)) ∧ w.cell? ⟨g, j * 3 + 1, none⟩ = some (.string (strOfNums ((sec S j).2.getD []))) ∧ w.cell? ⟨g, j * 3 + 2, none⟩ = some (.bool (sec S j).2.isSome) := by
  rcases h.2 with ⟨rfl, h0⟩ | ⟨g, cap, cur, rfl, hb, hh, h1, h2, h3, h4⟩
  · exact ⟨none, 0, by rw [h0], fun j hj => by omega⟩
  · refine ⟨_, cap, rfl, fun j hj => ⟨g, rfl, ?_⟩⟩
    have e : ∀ k, k < S.length * 3 → w.cell? ⟨g, k, none⟩ = (fp S)[k]? := fun k hk => by
      have e2 : (cur.toList.take (S.length * 3))[k]? = (fp S)[k]? := by rw [h4]
      rw [List.getElem?_take, if_pos hk] at e2
      rw [cell_of_row _ _ _ _ _ _ hh, ← e2]; simp
    rw [e _ (by omega), e _ (by omega), e _ (by omega)]
    exact fp_get S j hj
theorem RfX.setTrip (h : RfX w q base v ar d) (t tr : Int) (ht : d.down = false → t = tr) (hr : 0 ≤ t ∧ t ≤ 9223372036854775807) : RfX (w.setCell ⟨q, 1, none⟩ (.int .i64 t)) q base v t { d with trip := tr } :=
  ⟨heap_setCell_same w q 1 _ 52 _ h.row, owns_kept h.own (fun _ hg => heap_setCell_other w ⟨q, 1, none⟩ _ _ (h.vne hg)), h.ok, h.len, ht, hr, h.bp⟩
theorem RfX.setDown (h : RfX w q base v ar d) (b : Bool) (tr : Int) (ht : b = false → ar = tr) : RfX (w.setCell ⟨q, 2, none⟩ (.bool b)) q base v ar { d with down := b, trip := tr } :=
  ⟨heap_setCell_same w q 2 _ 52 _ h.row, owns_kept h.own (fun _ hg => heap_setCell_other w ⟨q, 2, none⟩ _ _ (h.vne hg)), h.ok, h.len, ht, h.rng, h.bp⟩
theorem RfX.setLife (h : RfX w q base v ar d) (l : Int) : RfX (w.setCell ⟨q, 3, none⟩ (.int .i64 l)) q base v ar { d with life := l } :=
  ⟨heap_setCell_same w q 3 _ 52 _ h.row, owns_kept h.own (fun _ hg => heap_setCell_other w ⟨q, 3, none⟩ _ _ (h.vne hg)), h.ok, h.len, h.trip, h.rng, h.bp⟩
/-- The slice of parts is another one. -/
theorem RfX.setS (h : RfX w q base v ar d) {v' : Value} {S' : List Sec} (ho : OwnP w base v' S') (hq : ∀ g, v'.ownBlock = some g → g ≠ q) (hok : ∀ s ∈ S', OkS s) (hl : S'.length ≤ 4096) : RfX (w.setCell ⟨q, 0, none⟩ v') q base v' ar { d with S := S' } :=
  ⟨heap_setCell_same w q 0 _ 52 _ h.row, owns_kept ho (fun g hg => heap_setCell_other w ⟨q, 0, none⟩ g _ (hq g hg)), hok, hl, h.trip, h.rng, h.bp⟩
end

set_option maxHeartbeats 1000000 in
theorem zeros_any (n : Nat) (w : World) (hn : n ≤ 1000) : Calls Try.prog 50 #[.int .i64 (n : Int)] w fun e w' => e = .returned (.string (strOfNums (List.replicate n 0))) ∧ w = w' := by
  go_enter Try.func50, Try.ntmps50
  go_wp2
  go_loopg [3] n (fun gg s3 wr => ∃ kk : Nat, kk ≤ n ∧ n - kk ≤ gg ∧ s3 = .string (strOfNums (List.replicate kk 0)) ∧ wr = w)
  case atStart => exact ⟨0, Nat.zero_le _, by omega, rfl, rfl⟩
  case round =>
    obtain ⟨kk, hkk, hg, rfl, rfl⟩ := hrel
    have hsz : (strOfNums (List.replicate kk 0)).size = kk := by rw [strOfNums_size]; simp
    have hadd := run_string_add_sum (P := Try.prog) wr (strOfNums (List.replicate kk 0)) ⟨#[0]⟩ (by rw [hsz, str_zero, strOfNums_size]; simp; omega)
    have HN : Hid (strOfNums (List.replicate kk 0) ++ ⟨#[0]⟩ = strOfNums (List.replicate (kk + 1) 0)) := ⟨by rw [str_zero, str_append, ← List.replicate_succ']⟩
    rw [HN.out] at hadd
    obtain ⟨z1, Hz1⟩ : ∃ z1, Hid (z1 = strOfNums (List.replicate (kk + 1) 0)) := ⟨_, ⟨rfl⟩⟩
    rw [← Hz1.out] at hadd
    clear HN
    by_cases hlt : kk < n
    · have hltz : (kk : Int) < (n : Int) := by omega
      generalize strOfNums (List.replicate kk 0) = z0 at hadd hsz
      go_wp2
      go_roundg (n - (kk + 1))
      case measure => omega
      case rel => exact ⟨kk + 1, by omega, by omega, by rw [Hz1.out], rfl⟩
    · obtain rfl : kk = n := by omega
      go_wp2
      go_ret
      exact ⟨rfl, rfl⟩

section
variable {w : World} {q base : Nat} {d : Dk}
set_option maxHeartbeats 1000000 in
theorem trips_yes (h : Rf w q base d) (hd : d.down = false) (ht : d.trip = 1) : Calls Try.prog 52 #[.pointer (some ⟨q, 0, none⟩)] w fun e w' => e = .returned (.bool true) ∧ Rf w' q base { d with down := true } ∧ Chg [q] w w' := by
  obtain ⟨v, ar, h⟩ := h
  obtain ⟨_, c1, c2, _⟩ := h.cells
  have f1 := h.frozen 1
  have f2 := h.frozen 2
  have har : ar = 1 := by rw [h.trip hd, ht]
  subst har
  have HR : Hid (Rf ((w.setCell ⟨q, 1, none⟩ (.int .i64 0)).setCell ⟨q, 2, none⟩ (.bool true)) q base { d with down := true } ∧ Chg [q] w ((w.setCell ⟨q, 1, none⟩ (.int .i64 0)).setCell ⟨q, 2, none⟩ (.bool true))) := ⟨((h.setTrip 0 0 (fun _ => rfl) (by omega)).setDown true d.trip (fun e => by cases e)).rf, ((Chg.refl [q] w).setCell (.inl (by simp)) _).setCell (.inl (by simp)) _⟩
  clear h
  go_enter Try.func52, Try.ntmps52
  go_wp2
  go_ret
  exact ⟨rfl, HR.out⟩
set_option maxHeartbeats 1000000 in
theorem trips_no (h : Rf w q base d) (hd : d.down = false) (ht : d.trip ≠ 1) : Calls Try.prog 52 #[.pointer (some ⟨q, 0, none⟩)] w fun e w' => e = .returned (.bool false) ∧ Rf w' q base { d with trip := dec d.trip } ∧ Chg [q] w w' := by
  obtain ⟨v, ar, h⟩ := h
  obtain ⟨_, c1, _⟩ := h.cells
  have f1 := h.frozen 1
  have har := h.trip hd
  subst har
  have hr := h.rng
  have hne : ¬ d.trip = 1 := ht
  by_cases hgt : 1 < d.trip
  · have hw : wrap64 (d.trip - 1) = d.trip - 1 := IntWalk.wrap64_in _ ⟨by omega, by omega⟩
    have HR : Hid (Rf (w.setCell ⟨q, 1, none⟩ (.int .i64 (d.trip - 1))) q base { d with trip := dec d.trip } ∧ Chg [q] w (w.setCell ⟨q, 1, none⟩ (.int .i64 (d.trip - 1)))) := ⟨by
      have e : dec d.trip = d.trip - 1 := if_pos hgt
      rw [e]
      exact ⟨(h.setTrip _ _ (fun _ => rfl) (by omega)).rf, (Chg.refl [q] w).setCell (.inl (by simp)) _⟩⟩
    clear h
    generalize hd2 : ({ d with trip := dec d.trip } : Dk) = d2 at HR
    generalize d.trip = tr at *
    go_enter Try.func52, Try.ntmps52
    go_wp2
    go_ret
    exact ⟨rfl, HR.out⟩
  · have HR : Hid (Rf w q base { d with trip := dec d.trip }) := ⟨by
      have e : dec d.trip = d.trip := if_neg hgt
      rw [e]; exact h.rf⟩
    clear h
    generalize hd2 : ({ d with trip := dec d.trip } : Dk) = d2 at HR
    generalize d.trip = tr at *
    go_enter Try.func52, Try.ntmps52
    go_wp2
    go_ret
    exact ⟨rfl, HR.out, Chg.refl _ _⟩
set_option maxHeartbeats 1000000 in
theorem rtrip_any (h : Rf w q base d) (n : Int) (hn : n ≤ 9223372036854775807) : Calls Try.prog 44 #[.pointer (some ⟨q, 0, none⟩), .int .i64 n] w fun e w' => e = .returned (.int .i64 (trpE d n)) ∧ Rf w' q base (trpD d n) ∧ Chg [q] w w' := by
  obtain ⟨v, ar, h⟩ := h
  obtain ⟨_, c1, c2, _⟩ := h.cells
  have f1 := h.frozen 1
  unfold trpE trpD
  cases hd : d.down with
  | true =>
    have HA : Hid (Rf w q base d) := ⟨h.rf⟩
    rw [hd] at c2
    clear h
    go_enter Try.func44, Try.ntmps44
    go_wp2
    go_ret
    exact ⟨rfl, HA.out, Chg.refl _ _⟩
  | false =>
    rw [hd] at c2
    by_cases hn0 : n < 0
    · have HA : Hid (Rf w q base d) := ⟨h.rf⟩
      clear h
      go_enter Try.func44, Try.ntmps44
      go_wp2
      go_ret
      exact ⟨rfl, HA.out, Chg.refl _ _⟩
    · have HR : Hid (Rf (w.setCell ⟨q, 1, none⟩ (.int .i64 n)) q base { d with trip := n }) := ⟨(h.setTrip n n (fun _ => rfl) ⟨by omega, hn⟩).rf⟩
      clear h
      go_enter Try.func44, Try.ntmps44
      go_wp2
      go_ret
      exact ⟨rfl, by rw [hd] at HR; exact HR.out, (Chg.refl [q] w).setCell (.inl (by simp)) _⟩
end
end Go.Proofs.Ytmcikhdfpmkpnaa
