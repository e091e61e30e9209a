/- The document's Dirty, Read, Fork. -/
import Derived.Test.YtmcikhdfpmkpnaaR6
namespace Go.Proofs.Ytmcikhdfpmkpnaa
open Go.RowKit Go.Maps Go.Sort Go.Shelf

theorem info3 : (Try.prog.info? 3).map (fun i => (i.zero, i.size, i.bytes)) = some (some (.int .i64 0), 1, 8) := by kernel_rfl
/-- 'append(l, y)' of one int. -/
theorem wp_app1I {ops : Array Oper} {rest : List Oper} {o : Oper} {a : Act} {Q : Exit → Act → World → Prop} {w : World} {y : Int} (hgd : o.guard = none) (s x : Operand)
    (ho : o.op = .call { callee := .builtin .append, args := #[s, x], argTypes := #[28, 28] })
    {base : Nat} {v : Value} {xs : List Int} (hs : a.eval s = v) (hown : OwnI w base v xs)
    (hx : a.eval x = .slice (some ⟨w.heap.size, 0, none⟩) 1 1) (hlen : xs.length ≤ 1000000) (hbase : base ≤ w.heap.size)
    (h : ∀ v' w', OwnI w' base v' (xs ++ [y]) → Below base w w' → wpList Try.prog ops Q rest (a.put o.dst v') w') :
    wpList Try.prog ops Q (o :: rest) a (w.alloc (.cells #[.int .i64 y] 3)) := by
  obtain ⟨i0, hi, hz0, hz1, hz2⟩ := info_parts' info3
  refine wpList_append_own _ hgd s x 28 ho base 3 i0 (.int .i64 0) 1 8 Try.underlying28 hi hz0 hz1 hz2 rfl (by decide) v xs.length _ hs (World.ownsRow.alloc hown _) ⟨w.heap.size, 0, none⟩ 1 1 [.int .i64 y] hx rfl ?_ ?_ ?_ ?_ ?_ ?_
  · intro j u hj
    match j, hj with
    | 0, hj => simp at hj; subst hj; simp [Addr.add]
  · intro u hu; simp at hu; subst hu; rfl
  · unfold maxLen; omega
  · omega
  · simp; omega
  · intro v' w' h1 h2 _
    refine h v' w' (by unfold OwnI; simpa using h1) ?_
    exact ((Below.refl base w).alloc hbase _).grown h2 (by simp; omega) (own_ge hown)

/-- The dirty ones among the first k. -/
def dlk (S : List Sec) (k : Nat) : List Int := ((List.range k).filter (dirt S)).map (fun i : Nat => (i : Int))
theorem dlk_succ (S : List Sec) (k : Nat) : dlk S (k + 1) = if dirt S k then dlk S k ++ [(k : Int)] else dlk S k := by
  unfold dlk
  rw [List.range_succ, List.filter_append]
  by_cases h : dirt S k = true
  · simp [h]
  · simp [h]
theorem dlk_len (S : List Sec) (k : Nat) : (dlk S k).length ≤ k := by
  have := List.length_filter_le (dirt S) (List.range k)
  simpa [dlk] using this

section
variable {w : World} {q base : Nat} {d : Dk}
set_option maxHeartbeats 2000000 in
theorem rdirty_any (h : Rf w q base d) : Calls Try.prog 30 #[.pointer (some ⟨q, 0, none⟩)] w fun e w' => ∃ v, e = .returned v ∧ OwnI w' w.heap.size v (dlI d.S) ∧ Below w.heap.size w w' := by
  obtain ⟨v1, ar1, hX⟩ := h
  obtain ⟨ao, cap, rfl, hcell⟩ := hX.own.shape
  have hlen := hX.len
  have hcc := hX.cells.1
  have hql := hX.lt
  obtain ⟨N, HN⟩ : ∃ N, Hid (d.S.length = N) := ⟨_, ⟨rfl⟩⟩
  have HC : Hid (∀ j, j < N → ∃ g, ao = some ⟨g, 0, none⟩ ∧ w.cell? ⟨g, j * 3 + 2, none⟩ = some (.bool (dirt d.S j))) := ⟨fun j hj => by
    obtain ⟨g, e, _, _, k2⟩ := hcell j (by rw [HN.out]; exact hj)
    exact ⟨g, e, k2⟩⟩
  rw [HN.out] at hlen hcc
  have HO0 : Hid (OwnI (w.alloc (.cells #[] 3)) w.heap.size (.slice (some ⟨w.heap.size, 0, none⟩) 0 0) (dlk d.S 0)) := ⟨⟨rfl, .inr ⟨w.heap.size, 0, #[], rfl, Nat.le_refl _, heap_alloc_new w _, Nat.le_refl _, by decide, rfl, rfl⟩⟩⟩
  have HB0 : Hid (Below w.heap.size w (w.alloc (.cells #[] 3))) := ⟨(Below.refl _ w).alloc (Nat.le_refl _) _⟩
  clear hX hcell
  go_enter Try.func30, Try.ntmps30
  go_wp2
  go_loopg [3, 4] N (fun gg s3 s4 wr => ∃ kk : Nat, kk ≤ N ∧ N - kk ≤ gg ∧ s4 = .int .i64 (kk : Int) ∧ Hid (Below w.heap.size w wr) ∧ Hid (OwnI wr w.heap.size s3 (dlk d.S kk)))
  case atStart => exact ⟨0, Nat.zero_le _, by omega, rfl, HB0, HO0⟩
  case round =>
    clear HO0 HB0
    obtain ⟨kk, hkk, hgg, rfl, HB, HO⟩ := hrel
    have d0 : wr.cell? ⟨q, 0, none⟩ = some (.slice ao N cap) := (HB.out.cell (p := ⟨q, 0, none⟩) hql).trans hcc
    by_cases hlt : kk < N
    · have hltz : (kk : Int) < (N : Int) := by omega
      obtain ⟨g, rfl, k2⟩ := HC.out kk hlt
      have j2 := (HB.out.cell (World.block_lt_of_cell? _ _ k2)).trans k2
      have hlt1 : (dlk d.S kk).length ≤ 1000000 := by have := dlk_len d.S kk; omega
      have hsz := HB.out.size
      have HT : Hid (dlk d.S (kk + 1) = if dirt d.S kk then dlk d.S kk ++ [(kk : Int)] else dlk d.S kk) := ⟨dlk_succ _ _⟩
      clear k2
      cases hdt : dirt d.S kk with
      | true =>
        rw [hdt] at j2 HT
        go_wp2_with (at_builtin; refine wp_app1I rfl (.tmp 23) (.tmp 25) rfl rfl HO.out rfl hlt1 hsz ?_; intro v' w2 hv' hb')
        go_roundg (N - (kk + 1))
        case measure => omega
        case rel => exact ⟨kk + 1, by omega, by omega, by go_num, ⟨HB.out.trans hb'⟩, ⟨by rw [HT.out]; exact hv'⟩⟩
      | false =>
        rw [hdt] at j2 HT
        go_wp2
        go_roundg (N - (kk + 1))
        case measure => omega
        case rel => exact ⟨kk + 1, by omega, by omega, by go_num, HB, ⟨by rw [HT.out]; exact HO.out⟩⟩
    · obtain rfl : kk = N := by omega
      go_wp2
      go_ret
      exact ⟨_, rfl, by have q := HO.out; unfold dlk at q; unfold dlI dl; rw [HN.out]; exact q, HB.out⟩

theorem conv_nil (W : World) : (convert 37 9 (.slice none 0 0)).run Try.prog W = .ok (.string (strOfNums [])) W := by
  rw [run_convert_bytes_nil W 37 5 Try.underlying37 Try.underlying5 0 0 9 Try.underlying9]; rfl
/-- '[]byte(s)', and back. -/
theorem conv_back (W : World) (l : List Int) (hl : Byt l) (fr : Nat × Nat) (cap : Nat) : (convert 37 9 (.slice (some ⟨W.heap.size, 0, none⟩) l.length cap)).run Try.prog (W.drew.alloc (.cells (bytesRow (strOfNums l) cap) 5 fr)) = .ok (.string (strOfNums l)) (W.drew.alloc (.cells (bytesRow (strOfNums l) cap) 5 fr)) := by
  refine run_convert_bytes_arg _ 37 5 Try.underlying37 Try.underlying5 W.heap.size 0 l.length cap l rfl (fun i hi => ?_) 9 Try.underlying9
  have hh : (W.drew.alloc (.cells (bytesRow (strOfNums l) cap) 5 fr)).heap[W.heap.size]? = some (.cells (bytesRow (strOfNums l) cap) 5 fr) := heap_alloc_new W.drew _
  rw [cell_of_row _ _ _ _ _ _ hh, Nat.zero_add]
  unfold bytesRow
  have hsz : i < (strOfNums l).data.size := by have := strOfNums_size l; simp only [ByteArray.size] at this; omega
  rw [Array.getElem?_append_left (by simpa using hsz)]
  have hx := hl (l.getD i 0) (by simp [List.getD, List.getElem?_eq_getElem hi])
  simp [strOfNums, hi, List.getD] at hx ⊢
  omega

def RRead (w : World) (d : Dk) (i : Int) (e : Ending) (w' : World) : Prop := ∃ v, e = .returned (.tuple #[v, .int .i64 (rdE d i)]) ∧ (convert 37 9 v).run Try.prog w' = .ok (.string (strOfNums (rdB d i))) w' ∧ Below w.heap.size w w'

set_option maxHeartbeats 2000000 in
theorem rread_any (h : Rf w q base d) (i : Int) : Calls Try.prog 31 #[.pointer (some ⟨q, 0, none⟩), .int .i64 i] w (RRead w d i) := by
  obtain ⟨v1, ar1, hX⟩ := h
  obtain ⟨ao, cap, rfl, hcell⟩ := hX.own.shape
  have hcc := hX.cells.1
  have c2 := hX.cells.2.2.1
  have hok := hX.ok
  obtain ⟨N, HN⟩ : ∃ N, Hid (d.S.length = N) := ⟨_, ⟨rfl⟩⟩
  rw [HN.out] at hcc
  cases hd : d.down with
  | true =>
    rw [hd] at c2
    have HE : Hid (rdE d i = 7 ∧ rdB d i = []) := ⟨by unfold rdE rdB; rw [hd]; exact ⟨rfl, rfl⟩⟩
    clear hX hcell
    go_enter Try.func31, Try.ntmps31
    go_wp2
    go_ret2
    exact ⟨_, by rw [HE.out.1]; rfl, by rw [HE.out.2]; exact conv_nil _, Below.refl _ _⟩
  | false =>
    rw [hd] at c2
    by_cases hi : 0 ≤ i ∧ i < (N : Int)
    · have HE : Hid (rdE d i = 0 ∧ rdB d i = now (sec d.S i.toNat)) := ⟨by unfold rdE rdB; rw [hd, HN.out]; simp [hi]⟩
      obtain ⟨j, rfl⟩ : ∃ j : Nat, i = j := ⟨i.toNat, by omega⟩
      obtain ⟨hi0, hi1⟩ := hi
      have hin : ¬ (j : Int) < 0 := by omega
      have hge : ¬ (N : Int) ≤ (j : Int) := by omega
      have e1 : (j : Int).toNat = j := rfl
      rw [e1] at HE
      obtain ⟨g, rfl, k0, k1, k2⟩ := hcell j (by have := HN.out; omega)
      have hPg := pg_now (ok_sec hok j)
      obtain ⟨l, Hl⟩ : ∃ l, Hid (now (sec d.S j) = l) := ⟨_, ⟨rfl⟩⟩
      rw [Hl.out] at hPg HE
      have hbs := run_bytes_of_string (P := Try.prog) w 9 37 5 (strOfNums l) Try.underlying9 Try.underlying37 Try.underlying5
      rw [strOfNums_size] at hbs
      have HB : Hid (∀ cap fr, Below w.heap.size w (w.drew.alloc (.cells (bytesRow (strOfNums l) cap) 5 fr))) := ⟨fun cap fr => (Below.refl _ w).drew.alloc (Nat.le_refl _) _⟩
      have HV : Hid (∀ cap fr, (convert 37 9 (.slice (some ⟨w.heap.size, 0, none⟩) l.length cap)).run Try.prog (w.drew.alloc (.cells (bytesRow (strOfNums l) cap) 5 fr)) = .ok (.string (strOfNums l)) (w.drew.alloc (.cells (bytesRow (strOfNums l) cap) 5 fr))) := ⟨fun cap fr => conv_back w l hPg.2 fr cap⟩
      clear hX hcell hok
      generalize grownCap w l.length 0 5 = gc at hbs
      cases hs : (sec d.S j).2 with
      | some m =>
        have hm : m = l := by rw [← Hl.out]; unfold now; rw [hs]; rfl
        rw [hs] at k1 k2
        subst hm
        simp only [Option.getD_some, Option.isSome_some] at k1 k2
        go_enter Try.func31, Try.ntmps31
        go_wp2
        go_ret2
        exact ⟨_, by rw [HE.out.1]; rfl, by rw [HE.out.2]; exact HV.out _ _, HB.out _ _⟩
      | none =>
        have hm : (sec d.S j).1 = l := by rw [← Hl.out]; unfold now; rw [hs]; rfl
        rw [hs] at k2
        rw [hm] at k0
        simp only [Option.isSome_none] at k2
        go_enter Try.func31, Try.ntmps31
        go_wp2
        go_ret2
        exact ⟨_, by rw [HE.out.1]; rfl, by rw [HE.out.2]; exact HV.out _ _, HB.out _ _⟩
    · have HE : Hid (rdE d i = 2 ∧ rdB d i = []) := ⟨by unfold rdE rdB; rw [hd, HN.out]; simp [hi]⟩
      clear hX hcell
      by_cases h1 : i < 0
      · go_enter Try.func31, Try.ntmps31
        go_wp2
        go_ret2
        exact ⟨_, by rw [HE.out.1]; rfl, by rw [HE.out.2]; exact conv_nil _, Below.refl _ _⟩
      · have h2 : (N : Int) ≤ i := by omega
        go_enter Try.func31, Try.ntmps31
        go_wp2
        go_ret2
        exact ⟨_, by rw [HE.out.1]; rfl, by rw [HE.out.2]; exact conv_nil _, Below.refl _ _⟩

theorem rfork_any (h : Rf w q base d) (hbs : base ≤ w.heap.size) : Calls Try.prog 24 #[.pointer (some ⟨q, 0, none⟩)] w fun e w' => ∃ q', e = .returned (.pointer (some ⟨q', 0, none⟩)) ∧ Rf w' q' base d ∧ w.heap.size ≤ q' ∧ Below w.heap.size w w' := by
  obtain ⟨v1, ar1, hX⟩ := h
  obtain ⟨ao, cap, rfl, hcell⟩ := hX.own.shape
  obtain ⟨c0, c1, c2, c3⟩ := hX.cells
  have HR : Hid (Rf (w.alloc (.cells #[.slice ao d.S.length cap, .int .i64 ar1, .bool d.down, .int .i64 d.life] 52)) w.heap.size base d ∧ Below w.heap.size w (w.alloc (.cells #[.slice ao d.S.length cap, .int .i64 ar1, .bool d.down, .int .i64 d.life] 52))) := ⟨by
    have hb : Below w.heap.size w (w.alloc (.cells #[.slice ao d.S.length cap, .int .i64 ar1, .bool d.down, .int .i64 d.life] 52)) := (Below.refl _ w).alloc (Nat.le_refl _) _
    exact ⟨⟨_, _, heap_alloc_new w _, hX.own.below hb, hX.ok, hX.len, hX.trip, hX.rng, hbs⟩, hb⟩⟩
  clear hX hcell
  go_enter Try.func24, Try.ntmps24
  go_wp2
  go_ret
  exact ⟨w.heap.size, rfl, HR.out.1, Nat.le_refl _, HR.out.2⟩
end
end Go.Proofs.Ytmcikhdfpmkpnaa
