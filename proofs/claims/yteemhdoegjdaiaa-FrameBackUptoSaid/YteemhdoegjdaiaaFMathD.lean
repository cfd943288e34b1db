/-
  Plain mathematics of chapter 3 (frame): frames, one behind the other, and behind them a beginning of another one.
-/
import Derived.Test.YteemhdoegjdaiaaFScanM
import Derived.Test.YteemhdoegjdaiaaJoin
namespace Go.Proofs.Yteemhdoegjdaiaa.Fr

/-- The frames of payloads, one behind the other. -/
def frs (ls : List (List Nat)) : List Nat := cat (ls.map frm)
theorem frs_nil : frs [] = [] := rfl
theorem frs_cons (y : List Nat) (ls : List (List Nat)) : frs (y :: ls) = frm y ++ frs ls := by simp [frs, cat]
theorem frs_snoc {ls : List (List Nat)} {k : Nat} {y : List Nat} (h : ls[k]? = some y) : frs (ls.take (k + 1)) = frs (ls.take k) ++ frm y := by
  unfold frs cat
  rw [List.take_add_one, h]; simp
theorem frs_len (ls : List (List Nat)) : (frs ls).length ≤ (cat ls).length + 14 * ls.length := by
  induction ls with
  | nil => simp [frs, cat]
  | cons y ls ih =>
    have h1 := frm_len2 y
    have h2 := Mt.put_len_le y.length
    have e : cat (y :: ls) = y ++ cat ls := by simp [cat]
    rw [frs_cons, e, List.length_append, List.length_append, List.length_cons]
    omega
theorem frs_le (ls : List (List Nat)) (k : Nat) : (frs (ls.take k)).length ≤ (frs ls).length := by
  unfold frs
  rw [List.map_take]
  exact flat_le _ k
theorem frs_lt {ls : List (List Nat)} (h : ∀ y ∈ ls, ∀ x ∈ y, x < 256) (hl : ∀ y ∈ ls, y.length ≤ 65536) : ∀ x ∈ frs ls, x < 256 := by
  induction ls with
  | nil => simp [frs, cat]
  | cons y ls ih =>
    rw [frs_cons]
    exact both_lt (frm_lt (h y (by simp)) (by have := hl y (by simp); unfold Mt.B64; omega)) (ih (fun z hz => h z (by simp [hz])) (fun z hz => hl z (by simp [hz])))

/-- Bytes that are no frame, wherever they stand at the end. -/
def Bad (t : List Nat) : Prop := t = [] ∨ ∀ p : List Nat, (∀ x ∈ p, x < 256) → ∃ e, e ≠ 0 ∧ get (p ++ t) (p.length : Nat) = ([], 0, e)
theorem bad_begin {y : List Nat} (hy8 : ∀ x ∈ y, x < 256) (hy : y.length ≤ 65536) {c : Nat} (hc : c < (frm y).length) : Bad ((frm y).take c) := by
  by_cases h0 : (frm y).take c = []
  · exact .inl h0
  · right
    intro p hp
    have hF8 := frm_lt hy8 (show Mt.B64 y.length by unfold Mt.B64; omega)
    have ht8 : ∀ x ∈ (frm y).take c, x < 256 := fun x hx => hF8 x (List.mem_of_mem_take hx)
    rcases get_cases (both_lt hp ht8) (p.length : Nat) with ⟨e, h1, h2, h3⟩ | ⟨k, y', q, h1, h2, h3, h4, h5, h6⟩
    · exact ⟨e, by omega, h3⟩
    · exfalso
      obtain rfl : k = p.length := by omega
      rw [List.drop_left] at h3
      have hlen := congrArg List.length h3
      rw [List.length_take, List.length_append] at hlen
      have e : frm y = frm y' ++ (q ++ (frm y).drop c) := by
        rw [← List.append_assoc, ← h3, List.take_append_drop]
      have g1 := get_at (l := frm y) (p := []) (q := []) (y := y) (by simp) hy
      have g2 := get_at (l := frm y) (p := []) (q := q ++ (frm y).drop c) (y := y') (by rw [List.nil_append]; exact e) h5
      rw [g1] at g2
      simp only [Prod.mk.injEq, List.length_nil] at g2
      omega
theorem scan_frames (ls : List (List Nat)) : ∀ (f : Nat) (p t : List Nat), (∀ x ∈ p, x < 256) → (∀ y ∈ ls, ∀ x ∈ y, x < 256) → (∀ y ∈ ls, y.length ≤ 65536) → Bad t → (frs ls ++ t).length ≤ f →
    ∃ e, scanF f (p ++ frs ls ++ t) p.length = (ls, p.length + (frs ls).length, e) ∧ (t = [] → e = 0) := by
  induction ls with
  | nil =>
    intro f p t hp _ _ hb hf
    rw [frs_nil, List.append_nil]
    rcases hb with rfl | hb
    · refine ⟨0, ?_, fun _ => rfl⟩
      rw [scanF_end (by simp)]; rfl
    · by_cases h0 : t = []
      · subst h0
        refine ⟨0, ?_, fun _ => rfl⟩
        rw [scanF_end (by simp)]; rfl
      · obtain ⟨e, he, hg⟩ := hb p hp
        have hpos : 0 < t.length := by cases t with
          | nil => exact absurd rfl h0
          | cons x t => simp
        rw [frs_nil, List.nil_append] at hf
        obtain ⟨f, rfl⟩ : ∃ k, f = k + 1 := ⟨f - 1, by omega⟩
        refine ⟨e, ?_, fun h => absurd h h0⟩
        rw [scanF_err (by rw [List.length_append]; omega) hg he]; rfl
  | cons y ls ih =>
    intro f p t hp h8 hl hb hf
    have hy := hl y (by simp)
    have hy8 := h8 y (by simp)
    have hpos := frm_pos y
    rw [frs_cons] at hf
    simp only [List.length_append] at hf
    obtain ⟨f, rfl⟩ : ∃ k, f = k + 1 := ⟨f - 1, by omega⟩
    have e1 : p ++ frs (y :: ls) ++ t = p ++ frm y ++ (frs ls ++ t) := by rw [frs_cons]; simp
    have e2 : p ++ frs (y :: ls) ++ t = (p ++ frm y) ++ frs ls ++ t := by rw [frs_cons]; simp
    have hg := get_at e1 hy
    have hlt : p.length < (p ++ frs (y :: ls) ++ t).length := by rw [e1]; simp only [List.length_append]; omega
    obtain ⟨e, h1, h2⟩ := ih f (p ++ frm y) t (both_lt hp (frm_lt hy8 (by unfold Mt.B64; omega))) (fun z hz => h8 z (by simp [hz])) (fun z hz => hl z (by simp [hz])) hb (by rw [List.length_append]; omega)
    rw [List.length_append] at h1
    refine ⟨e, ?_, h2⟩
    rw [scanF_ok hlt hg, e2, h1, frs_cons, List.length_append, Nat.add_assoc]
theorem scan_back {ls : List (List Nat)} {t : List Nat} (h8 : ∀ y ∈ ls, ∀ x ∈ y, x < 256) (hl : ∀ y ∈ ls, y.length ≤ 65536) (hb : Bad t) :
    ∃ e, scan (frs ls ++ t) = (ls, (frs ls).length, e) ∧ (t = [] → e = 0) := by
  obtain ⟨e, h1, h2⟩ := scan_frames ls (frs ls ++ t).length [] t (by simp) h8 hl hb (Nat.le_refl _)
  exact ⟨e, by simpa [scan] using h1, h2⟩
end Go.Proofs.Yteemhdoegjdaiaa.Fr
