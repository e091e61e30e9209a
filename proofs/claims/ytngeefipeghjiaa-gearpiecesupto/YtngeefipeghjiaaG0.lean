/- Cutting a stream, as plain mathematics: a cutter that is fed byte by byte makes the chunks that the document's Split makes. -/
import Derived.Says
namespace Go.Proofs.Ytngeefipeghjiaa

section
variable (E : List Int → Bool)
/-- What ends, and what is held, when p comes behind held. -/
def feed : List Int → List Int → List (List Int) × List Int
  | held, [] => ([], held)
  | held, x :: p => if E (held ++ [x]) then ((held ++ [x]) :: (feed [] p).1, (feed [] p).2) else feed (held ++ [x]) p
theorem feed_nil (held : List Int) : feed E held [] = ([], held) := by rw [feed]
theorem feed_cons (held : List Int) (x : Int) (p : List Int) : feed E held (x :: p) = if E (held ++ [x]) then ((held ++ [x]) :: (feed E [] p).1, (feed E [] p).2) else feed E (held ++ [x]) p := by rw [feed]
/-- In which pieces a stream comes plays no part. -/
theorem feed_append (p q : List Int) : ∀ held, feed E held (p ++ q) = ((feed E held p).1 ++ (feed E (feed E held p).2 q).1, (feed E (feed E held p).2 q).2) := by
  induction p with
  | nil => intro held; simp [feed_nil]
  | cons x p ih =>
    intro held
    rw [List.cons_append, feed_cons, feed_cons]
    split
    · rw [ih []]; simp
    · rw [ih (held ++ [x])]
/-- The chunks, one behind the other, and what is held are the stream. -/
theorem feed_flat (p : List Int) : ∀ held, (feed E held p).1.flatten ++ (feed E held p).2 = held ++ p := by
  induction p with
  | nil => intro held; simp [feed_nil]
  | cons x p ih =>
    intro held
    rw [feed_cons]
    split
    · have := ih []
      simp only [List.flatten_cons, List.append_assoc]
      rw [this]
      simp
    · rw [ih (held ++ [x])]; simp
/-- No beginning of l ends a chunk. -/
def NoEnd (l : List Int) : Prop := ∀ k, 1 ≤ k → k ≤ l.length → E (l.take k) = false
theorem noEnd_nil : NoEnd E [] := fun k h1 h2 => by simp at h2; omega
theorem noEnd_snoc {l : List Int} {x : Int} (h : NoEnd E l) (hx : E (l ++ [x]) = false) : NoEnd E (l ++ [x]) := by
  intro k h1 h2
  by_cases hk : k ≤ l.length
  · rw [List.take_append_of_le_length hk]; exact h k h1 hk
  · have : k = (l ++ [x]).length := by simp at h2 ⊢; omega
    rw [this, List.take_length]; exact hx
theorem feed_held (p : List Int) : ∀ held, NoEnd E held → NoEnd E (feed E held p).2 := by
  induction p with
  | nil => intro held h; rw [feed_nil]; exact h
  | cons x p ih =>
    intro held h
    rw [feed_cons]
    split
    · exact ih [] (noEnd_nil E)
    · rename_i hx
      exact ih _ (noEnd_snoc E h (by simpa using hx))
/-- Where nothing ends, nothing is told. -/
theorem feed_none (p : List Int) : ∀ held, NoEnd E (held ++ p) → feed E held p = ([], held ++ p) := by
  induction p with
  | nil => intro held _; simp [feed_nil]
  | cons x p ih =>
    intro held h
    have h1 := h (held.length + 1) (by omega) (by simp)
    have e : (held ++ x :: p).take (held.length + 1) = held ++ [x] := by
      rw [List.take_append, List.take_of_length_le (by omega)]
      simp
    rw [e] at h1
    rw [feed_cons, if_neg (by simp [h1]), ih (held ++ [x]) (by simpa using h)]
    simp
/-- The first chunk is the shortest beginning that ends. -/
theorem feed_first (p : List Int) : ∀ held k, held.length < k → k ≤ (held ++ p).length → E ((held ++ p).take k) = true → (∀ j, held.length < j → j < k → E ((held ++ p).take j) = false) →
    feed E held p = ((held ++ p).take k :: (feed E [] ((held ++ p).drop k)).1, (feed E [] ((held ++ p).drop k)).2) := by
  induction p with
  | nil => intro held k h1 h2; simp at h2; omega
  | cons x p ih =>
    intro held k h1 h2 h3 h4
    have e : (held ++ x :: p).take (held.length + 1) = held ++ [x] := by
      rw [List.take_append, List.take_of_length_le (by omega)]
      simp
    have e2 : held ++ x :: p = (held ++ [x]) ++ p := by simp
    rw [feed_cons]
    by_cases hk : k = held.length + 1
    · subst hk
      rw [e] at h3 ⊢
      rw [if_pos h3]
      have e3 : (held ++ x :: p).drop (held.length + 1) = p := by
        rw [e2, show held.length + 1 = (held ++ [x]).length by simp, List.drop_left]
      rw [e3]
    · have hx := h4 (held.length + 1) (by omega) (by omega)
      rw [e] at hx
      rw [if_neg (by simp [hx]), e2]
      rw [e2] at h2 h3 h4
      exact ih (held ++ [x]) k (by simp; omega) h2 h3 (fun j hj hjk => h4 j (by simp at hj; omega) hjk)
/-- Two streams that are alike from a chunk's end on. -/
theorem feed_again (a s : List Int) (h : (feed E [] a).2 = []) : (feed E [] (a ++ s)).1 = (feed E [] a).1 ++ (feed E [] s).1 ∧ (feed E [] (a ++ s)).2 = (feed E [] s).2 := by
  rw [feed_append, h]
  exact ⟨rfl, rfl⟩
/-- Each chunk ends where it ends first. -/
theorem feed_ends (p : List Int) : ∀ held, ∀ c ∈ (feed E held p).1, E c = true ∧ c ≠ [] := by
  induction p with
  | nil => intro held c hc; simp [feed_nil] at hc
  | cons x p ih =>
    intro held c hc
    rw [feed_cons] at hc
    split at hc
    · rename_i hx
      rcases List.mem_cons.1 hc with rfl | h
      · exact ⟨hx, by simp⟩
      · exact ih [] c h
    · exact ih _ c hc
end
end Go.Proofs.Ytngeefipeghjiaa
