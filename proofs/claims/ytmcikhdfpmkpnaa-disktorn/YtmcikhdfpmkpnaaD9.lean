/- Package disk's Flush and Read. -/
import Derived.Test.YtmcikhdfpmkpnaaD8
import Derived.Laws.AppendOwnNone
namespace Go.Proofs.Ytmcikhdfpmkpnaa
open Go.RowKit Go.Maps Go.Sort Go.Shelf

def fluE (d : Dk) : Int := if d.down then 7 else if d.trip = 1 then 7 else 0
def fluD (d : Dk) : Dk := if d.down then d else if d.trip = 1 then { d with down := true } else flD { d with trip := dec d.trip }

section
variable {w : World} {p g bm base : Nat} {d : Dk}
set_option maxHeartbeats 1000000 in
theorem flush_any (h : At w p g bm base d) :
    Calls Try.prog 20 #[.pointer (some ⟨p, 0, none⟩)] w fun e w' => e = .returned (.int .i64 (fluE d)) ∧ At w' p g bm base (fluD d) ∧ Chg [p, g, bm] w w' := by
  have t1 := ready_any h
  unfold fluE fluD
  cases hd : d.down with
  | true =>
    rw [hd] at t1
    have HA : Hid (At w p g bm base d) := ⟨h⟩
    clear h
    go_enter Try.func20, Try.ntmps20
    go_wp2_with (go_at_call 33; refine t1.mono ?_; rintro e w' ⟨rfl, rfl⟩)
    go_ret
    exact ⟨rfl, HA.out, Chg.refl _ _⟩
  | false =>
    rw [hd] at t1
    simp only [Bool.false_eq_true, if_false]
    by_cases ht : d.trip = 1
    · simp only [ht, if_true]
      have t3 := unless_trip h hd ht (.func (.func 38) #[.pointer (some ⟨p, 0, none⟩)] #[])
      rw [ht] at t3
      clear h
      go_enter Try.func20, Try.ntmps20
      go_wp2_with (first
        | (go_at_call 33; refine t1.mono ?_; rintro e w' ⟨rfl, rfl⟩; clear t1)
        | (go_at_call 35; refine t3.mono ?_; rintro e w' ⟨rfl, hA2, hc2⟩; clear t3))
      go_ret
      exact ⟨rfl, hA2, hc2.mono (fun x hx => .inl (by simp at hx; simp [hx]))⟩
    · simp only [ht, if_false]
      have t3 := unless_step h hd ht 38 #[.pointer (some ⟨p, 0, none⟩)] #[] (enters_of Try.func38 (by kernel_rfl) rfl) (fun w' => At w' p g bm base (flD { d with trip := dec d.trip }) ∧ Chg [p, g, bm] w w') (fun W hAW hcW => by
        refine (settle_any hAW).mono ?_
        rintro e w' ⟨rfl, hA2, hc2⟩
        exact ⟨rfl, hA2, (hcW.mono (fun x hx => .inl (by simp at hx; simp [hx]))).trans (hc2.mono (fun x hx => .inl (by simp at hx; rcases hx with h | h <;> simp [h])))⟩)
      rw [hd] at t3
      clear h
      go_enter Try.func20, Try.ntmps20
      go_wp2_with (first
        | (go_at_call 33; refine t1.mono ?_; rintro e w' ⟨rfl, rfl⟩; clear t1)
        | (go_at_call 35; refine t3.mono ?_; rintro e w' ⟨rfl, hA2, hc2⟩; clear t3))
      go_ret
      exact ⟨rfl, hA2, hc2⟩
end

/-- The call owns the bytes v. -/
def OwnB (w : World) (base : Nat) (v : Value) (xs : List Int) : Prop := w.ownsRow base 5 1 v xs.length (xs.map (Value.int .u8))
theorem info5b : (Try.prog.info? 5).map (fun i => (i.zero, i.size, i.bytes)) = some (some (.int .u8 0), 1, 1) := by kernel_rfl
theorem info_parts' {P : Program} {e : TypeId} {z : Value} {k b : Nat} (h : (P.info? e).map (fun i => (i.zero, i.size, i.bytes)) = some (some z, k, b)) : ∃ i, P.info? e = some i ∧ i.zero = some z ∧ i.size = k ∧ i.bytes = b := by
  cases hi : P.info? e with
  | none => rw [hi] at h; simp at h
  | some i => rw [hi] at h; simp at h; exact ⟨i, rfl, h.1, h.2.1, h.2.2⟩
theorem own_ge {w : World} {base : Nat} {e : TypeId} {k : Nat} {v : Value} {n : Nat} {xs : List Value} (h : w.ownsRow base e k v n xs) : ∀ j, v.ownBlock = some j → base ≤ j := fun k hk => (h.lt k hk).1

section
variable {w : World} {ops : Array Oper} {rest : List Oper} {o : Oper} {a : Act} {Q : Exit → Act → World → Prop}
/-- 'append(v, src...)' of bytes, v the call's own. -/
theorem wp_appS (hgd : o.guard = none) (s x : Operand)
    (ho : o.op = .call { callee := .builtin .append, args := #[s, x], argTypes := #[37, 37] })
    {base : Nat} {v u : Value} {xs ys : List Int} (hs : a.eval s = v) (hown : OwnB w base v xs)
    (hx : a.eval x = u) (hu : Bs w u ys) (hlen : xs.length + ys.length ≤ 140737488355328) (hbase : base ≤ w.heap.size)
    (h : ∀ v' w', OwnB w' base v' (xs ++ ys) → Below base w w' → wpList Try.prog ops Q rest (a.put o.dst v') w') :
    wpList Try.prog ops Q (o :: rest) a w := by
  obtain ⟨i0, hi, hz0, hz1, hz2⟩ := info_parts' info5b
  obtain ⟨ao, cap, rfl, hl, hm, hn, hc, _⟩ := hu
  cases ao with
  | none =>
    have hcap := hn rfl
    subst hcap
    have hy : ys = [] := List.length_eq_zero_iff.1 (by omega)
    subst hy
    exact wpList_append_own_none hgd s x 37 ho base 5 i0 1 Try.underlying37 hi v xs.length _ hs hown hx (h v w (by simpa [OwnB] using hown) (Below.refl _ _))
  | some ad =>
    refine wpList_append_own _ hgd s x 37 ho base 5 i0 (.int .u8 0) 1 1 Try.underlying37 hi hz0 hz1 hz2 rfl (by decide) v xs.length _ hs hown ad ys.length cap (ys.map (Value.int .u8)) hx (by simp) ?_ ?_ ?_ ?_ hbase ?_
    · intro j u hj
      have hjl : j < ys.length := by
        rcases Nat.lt_or_ge j ys.length with h | h
        · exact h
        · simp [List.getElem?_eq_none (show (ys.map (Value.int .u8)).length ≤ j by simpa using h)] at hj
      rw [hc ad rfl j hjl]
      simp [List.getElem?_eq_getElem hjl] at hj
      subst hj
      simp [List.getD, List.getElem?_eq_getElem hjl]
    · intro u hu; simp at hu; obtain ⟨z, _, rfl⟩ := hu; rfl
    · unfold maxLen; omega
    · omega
    · intro v' w' h1 h2 _
      refine h v' w' (by unfold OwnB; simpa using h1) ?_
      exact (Below.refl base w).grown h2 hbase (own_ge hown)
end
theorem add_plain (b off i : Nat) : (⟨b, off, none⟩ : Addr).add i = ⟨b, off + i, none⟩ := by unfold Addr.add; split <;> simp_all
theorem OwnB.bs {w : World} {base : Nat} {v : Value} {bs : List Int} (h : OwnB w base v bs) (hy : Byt bs) : Bs w v bs := by
  obtain ⟨_, h⟩ := h
  rcases h with ⟨rfl, h0⟩ | ⟨g, cap, cur, rfl, hb, hh, hc, hm, hcs, ht⟩
  · rw [List.length_eq_zero_iff.1 h0]; exact ⟨none, 0, rfl, Nat.le_refl _, Nat.zero_le _, fun _ => rfl, fun x h => (by cases h), fun x h => by simp at h⟩
  · refine ⟨_, _, rfl, hc, hm, by simp, fun x hx i hi => ?_, hy⟩
    cases hx
    have e1 : (⟨g, 0, none⟩ : Addr).add i = ⟨g, i, none⟩ := by rw [add_plain]; simp
    have e2 : (cur.toList.take (bs.length * 1))[i]? = (bs.map (Value.int .u8))[i]? := by rw [ht]
    rw [List.getElem?_take, if_pos (by omega)] at e2
    rw [e1]
    simp [World.cell?, hh, List.getD_eq_getElem?_getD, List.getElem?_eq_getElem hi] at e2 ⊢
    exact e2
/-- A page variable, sliced, reads its bytes. -/
theorem var_bs {w : World} {g : Nat} {l : List Int} (h : w.heap[g]? = some (.cells (pa l) 68 (0, 0))) (hl : Pg l) : Bs w (.slice (some ⟨g, 0, none⟩) 128 128) l := by
  refine ⟨_, 128, by rw [hl.1], by rw [hl.1]; exact Nat.le_refl _, by unfold maxLen; omega, by simp, fun x hx i hi => ?_, hl.2⟩
  cases hx
  rw [add_plain]
  exact var_cells h i _ (by simp [pc, List.getElem?_eq_getElem hi, List.getD])

def rdE (d : Dk) (i : Int) : Int := if d.down then 7 else if 0 ≤ i ∧ i < (d.S.length : Int) then 0 else 2
def rdB (d : Dk) (i : Int) : List Int := if d.down then [] else if 0 ≤ i ∧ i < (d.S.length : Int) then now (sec d.S i.toNat) else []
end Go.Proofs.Ytmcikhdfpmkpnaa
