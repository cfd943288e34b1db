/-
  CopyO: stookref00.Copy.
  SfRename: Chapter 14: a file that is sure is renamed over another one that is: the states.
  SfTail: Chapter 14: pieces that are put behind a file that is sure: what is left of them.
-/
import Derived.Test.YtmcbjcbnckpfkaaPk01
import Derived.Test.YtmcbjcbnckpfkaaPk02
import Derived.Test.YtmcbjcbnckpfkaaPk04
import Derived.Test.YtmcbjcbnckpfkaaPk24
namespace Go.Proofs.Ytmcbjcbnckpfkaa
open Go.RowKit
set_option linter.unusedVariables false

set_option maxHeartbeats 1000000 in
set_option maxRecDepth 100000 in
theorem copyO_any (v : Value) (l : List Nat) (B : Nat) (w : World) (h : Lv yK w B v l) (hsz : l.length ≤ 140737488355328) :
    Calls Try.prog 33 #[v] w (IsL1 yK l w) := by
  have H0 := Lib.hid h
  obtain ⟨A, c, rfl, _⟩ := h
  have hnil := Lib.hid (OwnL.nil_ yK w w.heap.size)
  go_enter Try.func33, Try.ntmps33
  go_wp2_with (at_builtin; go_must (refine wpList_append_l _ yK rfl _ _ rfl w.heap.size _ rfl [] hnil.out _ rfl _ l H0.out (by show _ * 1 ≤ _; simp; omega) (by simp [maxLen]; omega) (Nat.le_refl _) ?_; intro A3 c3 w1 hA hG))
  go_ret
  simp only [List.nil_append] at hA
  exact ⟨A3, c3, by simp, hA, (Below.refl w.heap.size w).grown hG (Nat.le_refl _) (by intro k hk; cases hk)⟩
end Go.Proofs.Ytmcbjcbnckpfkaa
namespace Go.Proofs.Ytmcbjcbnckpfkaa.Sf
open Go.RowKit
set_option linter.unusedVariables false
def rn4S (b : List Nat) : St := ⟨1048576, [⟨b, []⟩, noFile], [], [[(⟨#[97]⟩, 0)], [(⟨#[97]⟩, 0), (⟨#[110]⟩, 1)]], [(⟨#[97]⟩, 0), (⟨#[110]⟩, 1)], 4, 0, false⟩
def rn5S (b c : List Nat) : St := ⟨1048576, [⟨b, []⟩, ⟨[], [⟨false, 0, c⟩]⟩], [], [[(⟨#[97]⟩, 0)], [(⟨#[97]⟩, 0), (⟨#[110]⟩, 1)]], [(⟨#[97]⟩, 0), (⟨#[110]⟩, 1)], 5, 0, false⟩
def rn6S (b c : List Nat) : St := ⟨1048576, [⟨b, []⟩, ⟨c, []⟩], [], [[(⟨#[97]⟩, 0)], [(⟨#[97]⟩, 0), (⟨#[110]⟩, 1)]], [(⟨#[97]⟩, 0), (⟨#[110]⟩, 1)], 6, 0, false⟩
def rn7S (b c : List Nat) : St := ⟨1048576, [⟨b, []⟩, ⟨c, []⟩], [(⟨#[97]⟩, 0), (⟨#[110]⟩, 1)], [], [(⟨#[97]⟩, 0), (⟨#[110]⟩, 1)], 7, 0, false⟩
def rn8S (b c : List Nat) : St := ⟨1048576, [⟨b, []⟩, ⟨c, []⟩], [(⟨#[97]⟩, 0), (⟨#[110]⟩, 1)], [[(⟨#[97]⟩, 1)]], [(⟨#[97]⟩, 1)], 8, 0, false⟩
def rn9S (b c : List Nat) : St := ⟨1048576, [⟨b, []⟩, ⟨c, []⟩], [(⟨#[97]⟩, 1)], [], [(⟨#[97]⟩, 1)], 9, 0, false⟩
theorem find_n1 : find [(⟨#[97]⟩, 0)] ⟨#[110]⟩ = none := by decide +kernel
theorem find_n2 : find [(⟨#[97]⟩, 0), (⟨#[110]⟩, 1)] ⟨#[110]⟩ = some 1 := by decide +kernel
theorem rn4 (b : List Nat) : create (one3S ⟨#[97]⟩ b) ⟨#[110]⟩ = (0, rn4S b) := by
  have h1 : isName ⟨#[110]⟩ = true := by decide +kernel
  have h2 : with_ [(⟨#[97]⟩, 0)] ⟨#[110]⟩ 1 = [(⟨#[97]⟩, 0), (⟨#[110]⟩, 1)] := by decide +kernel
  unfold create
  rw [if_neg (by simp [one3S]), if_neg (by rw [h1]; simp), if_neg (by show ¬ (find [(⟨#[97]⟩, 0)] ⟨#[110]⟩).isSome = true; rw [find_n1]; simp), if_neg (by simp [one3S])]
  show turn _ (with_ [(⟨#[97]⟩, 0)] ⟨#[110]⟩ 1) = _
  rw [h2]
  rfl
theorem rn_get {t : St} (h1 : t.dead = false) (h2 : t.seen = [(⟨#[97]⟩, 0), (⟨#[110]⟩, 1)]) : get t ⟨#[110]⟩ = (1, 0) := by
  unfold get
  rw [h1, h2, find_n2]
  rfl
theorem rn5 {b c : List Nat} (h : b.length + c.length ≤ 1048576) : append (rn4S b) ⟨#[110]⟩ c = (0, rn5S b c) := by
  unfold append
  rw [rn_get rfl rfl, if_neg (by simp), if_neg (by simp [rn4S, used, lens, len, fileAt, noFile, now]; omega)]
  rfl
theorem rn6 (b c : List Nat) : sync (rn5S b c) ⟨#[110]⟩ = (0, rn6S b c) := by
  unfold sync
  rw [rn_get rfl rfl, if_neg (by simp)]
  have e : now (fileAt (rn5S b c) 1) = c := by simp [rn5S, fileAt, now, done]
  rw [show (blown (rn5S b c)) = (0, { rn5S b c with acts := 6 }) from rfl, if_neg (by simp), e]
  rfl
theorem rn7 (b c : List Nat) : syncDir (rn6S b c) = (0, rn7S b c) := rfl
theorem rn8 (b c : List Nat) : rename (rn7S b c) ⟨#[110]⟩ ⟨#[97]⟩ = (0, rn8S b c) := by
  have h1 : isName ⟨#[97]⟩ = true := by decide +kernel
  have h2 : with_ (without (without [(⟨#[97]⟩, 0), (⟨#[110]⟩, 1)] ⟨#[110]⟩) ⟨#[97]⟩) ⟨#[97]⟩ 1 = [(⟨#[97]⟩, 1)] := by decide +kernel
  unfold rename
  rw [rn_get rfl rfl, if_neg (by simp), if_neg (by rw [h1]; simp)]
  show turn _ (with_ (without (without [(⟨#[97]⟩, 0), (⟨#[110]⟩, 1)] ⟨#[110]⟩) ⟨#[97]⟩) ⟨#[97]⟩ 1) = _
  rw [h2]
  rfl
theorem rn9 (b c : List Nat) : syncDir (rn8S b c) = (0, rn9S b c) := rfl
theorem rn_left8 {b c : List Nat} (h : b.length + c.length ≤ 1048576) (l : List Int) : read (fail (rn8S b c) l) ⟨#[97]⟩ 0 1048576 = (b, 0) ∨ read (fail (rn8S b c) l) ⟨#[97]⟩ 0 1048576 = (c, 0) := by
  rcases dirOf_mem (rn8S b c) l with e | e
  · have hf : find (dirOf (rn8S b c) l) ⟨#[97]⟩ = some 0 := by rw [e]; show find [(⟨#[97]⟩, 0), (⟨#[110]⟩, 1)] ⟨#[97]⟩ = some 0; decide +kernel
    obtain ⟨l', e'⟩ := fail_read hf 1048576 (by decide)
    left
    rw [e', show fileAt (rn8S b c) 0 = ⟨b, []⟩ from rfl, kept1_none, List.take_of_length_le (by simp; omega)]
  · have hf : find (dirOf (rn8S b c) l) ⟨#[97]⟩ = some 1 := by
      have : dirOf (rn8S b c) l = [(⟨#[97]⟩, 1)] := by simpa [rn8S] using e
      rw [this]; decide +kernel
    obtain ⟨l', e'⟩ := fail_read hf 1048576 (by decide)
    right
    rw [e', show fileAt (rn8S b c) 1 = ⟨c, []⟩ from rfl, kept1_none, List.take_of_length_le (by simp; omega)]
theorem rn_left9 {b c : List Nat} (h : b.length + c.length ≤ 1048576) (l : List Int) : read (fail (rn9S b c) l) ⟨#[97]⟩ 0 1048576 = (c, 0) := by
  have hf : find (dirOf (rn9S b c) l) ⟨#[97]⟩ = some 1 := by
    rw [dirOf_sure rfl]; show find [(⟨#[97]⟩, 1)] ⟨#[97]⟩ = some 1; decide +kernel
  obtain ⟨l', e'⟩ := fail_read hf 1048576 (by decide)
  rw [e', show fileAt (rn9S b c) 1 = ⟨c, []⟩ from rfl, kept1_none, List.take_of_length_le (by simp; omega)]
end Go.Proofs.Ytmcbjcbnckpfkaa.Sf
namespace Go.Proofs.Ytmcbjcbnckpfkaa.Sf
open Go.RowKit
set_option linter.unusedVariables false
/-- The acts by which pieces are put behind so many bytes. -/
def tlActs : Nat → List (List Nat) → List Act
  | _, [] => []
  | n, p :: ps => ⟨false, n, p⟩ :: tlActs (n + p.length) ps
theorem tlActs_len (ps : List (List Nat)) : ∀ n, (tlActs n ps).length = ps.length := by
  induction ps with
  | nil => intro n; rfl
  | cons p ps ih => intro n; rw [tlActs, List.length_cons, ih, List.length_cons]
theorem tlActs_more (ps : List (List Nat)) (p : List Nat) : ∀ n, tlActs n (ps ++ [p]) = tlActs n ps ++ [⟨false, n + ps.flatten.length, p⟩] := by
  induction ps with
  | nil => intro n; simp [tlActs]
  | cons x ps ih => intro n; rw [List.cons_append, tlActs, tlActs, ih, List.cons_append, List.flatten_cons, List.length_append, Nat.add_assoc]
theorem done_behind (b p : List Nat) : done b ⟨false, b.length, p⟩ = b ++ p := by
  unfold done
  simp only [Bool.false_eq_true, if_false]
  rw [List.take_length, List.drop_of_length_le (by omega), List.append_nil]
theorem tl_fold (ps : List (List Nat)) : ∀ b : List Nat, (tlActs b.length ps).foldl done b = b ++ ps.flatten := by
  induction ps with
  | nil => intro b; simp [tlActs]
  | cons p ps ih =>
    intro b
    rw [tlActs, List.foldl_cons, done_behind, ← List.length_append, ih, List.flatten_cons, List.append_assoc]
theorem tl_take (ps : List (List Nat)) (k : Nat) : ∀ n, (tlActs n ps).take k = tlActs n (ps.take k) := by
  induction ps generalizing k with
  | nil => intro n; simp [tlActs]
  | cons p ps ih =>
    intro n
    cases k with
    | zero => rfl
    | succ k => rw [tlActs, List.take_succ_cons, List.take_succ_cons, tlActs, ih]
theorem tl_bytes (b : List Nat) (ps : List (List Nat)) (k : Nat) : bytes ⟨b, tlActs b.length ps⟩ k = b ++ (ps.take k).flatten := by
  unfold bytes
  simp only
  rw [tl_take, tl_fold]
theorem tl_at (ps : List (List Nat)) : ∀ (n k : Nat) (a : Act), (tlActs n ps)[k]? = some a → ∃ p, ps[k]? = some p ∧ a = ⟨false, n + (ps.take k).flatten.length, p⟩ := by
  induction ps with
  | nil => intro n k a h; simp [tlActs] at h
  | cons x ps ih =>
    intro n k a h
    rw [tlActs] at h
    cases k with
    | zero => simp at h; exact ⟨x, rfl, by rw [← h]; simp⟩
    | succ k =>
      rw [List.getElem?_cons_succ] at h
      obtain ⟨p, h1, h2⟩ := ih _ _ _ h
      exact ⟨p, by rw [List.getElem?_cons_succ]; exact h1, by rw [h2, List.take_succ_cons, List.flatten_cons, List.length_append, Nat.add_assoc]⟩
def tlS (s : ByteArray) (b : List Nat) (ps : List (List Nat)) : St := ⟨1048576, [⟨b, tlActs b.length ps⟩], [(s, 0)], [], [(s, 0)], 4 + ps.length, 0, false⟩
theorem tl_nil (s : ByteArray) (b : List Nat) : tlS s b [] = oneSure s b 4 := rfl
theorem tl_put (s : ByteArray) {b p : List Nat} {ps : List (List Nat)} (h : b.length + ps.flatten.length + p.length ≤ 1048576) : append (tlS s b ps) s p = (0, tlS s b (ps ++ [p])) := by
  have hg : get (tlS s b ps) s = (0, 0) := get_one rfl rfl
  have hl : len (tlS s b ps) 0 = b.length + ps.flatten.length := by
    show (now ⟨b, tlActs b.length ps⟩).length = _
    unfold now
    rw [tl_fold, List.length_append]
  unfold append
  have hu : used (tlS s b ps) = b.length + ps.flatten.length := by
    rw [used_lens (by rfl)]
    show ([len (tlS s b ps) 0]).sum = _
    rw [hl]; simp
  rw [hg, if_neg (by simp), hu, hl, if_neg (by show ¬ (0 < p.length ∧ 1048576 < _); omega)]
  unfold tlS
  rw [tlActs_more]
  simp [add, blown, fileAt]
  omega
/-- What is left of it: a beginning that has all that was sure. -/
theorem tl_left (s : ByteArray) {b : List Nat} {ps : List (List Nat)} (h : b.length + ps.flatten.length ≤ 1048576) (l : List Int) :
    ∃ r, read (fail (tlS s b ps) l) s 0 1048576 = (r, 0) ∧ b.length ≤ r.length ∧ r.length ≤ (b ++ ps.flatten).length ∧ r = (b ++ ps.flatten).take r.length := by
  have hf : find (dirOf (tlS s b ps) l) s = some 0 := by rw [dirOf_sure rfl]; simp [tlS, find]
  obtain ⟨l', e⟩ := fail_read hf 1048576 (by decide)
  have hfile : fileAt (tlS s b ps) 0 = ⟨b, tlActs b.length ps⟩ := rfl
  rw [hfile] at e
  have key : ∀ (k m : Nat) (p : List Nat), ps[k]? = some p ∨ m = 0 → ∃ q, b ++ (ps.take k).flatten ++ p.take m ++ q = b ++ ps.flatten := by
    intro k m p hp
    rcases hp with hp | rfl
    · have hk := (List.getElem?_eq_some_iff.1 hp).1
      refine ⟨p.drop m ++ (ps.drop (k + 1)).flatten, ?_⟩
      have e1 : ps = ps.take k ++ p :: ps.drop (k + 1) := by
        conv => lhs; rw [← List.take_append_drop k ps]
        rw [List.drop_eq_getElem_cons hk]
        congr 2
        rw [List.getElem?_eq_getElem hk] at hp
        exact Option.some.inj hp
      conv => rhs; rw [e1]
      rw [List.flatten_append, List.flatten_cons]
      simp only [List.append_assoc]
      rw [← List.append_assoc (p.take m), List.take_append_drop]
    · refine ⟨(ps.drop k).flatten, ?_⟩
      rw [List.take_zero, List.append_nil, List.append_assoc, ← List.flatten_append, List.take_append_drop]
  have fin : ∀ r, (∃ q, r ++ q = b ++ ps.flatten) → b.length ≤ r.length → read (fail (tlS s b ps) l) s 0 1048576 = (r.take 1048576, 0) →
      ∃ r, read (fail (tlS s b ps) l) s 0 1048576 = (r, 0) ∧ b.length ≤ r.length ∧ r.length ≤ (b ++ ps.flatten).length ∧ r = (b ++ ps.flatten).take r.length := by
    intro r ⟨q, hq⟩ hb hr
    have hl : r.length ≤ (b ++ ps.flatten).length := by rw [← hq, List.length_append]; omega
    rw [List.take_of_length_le (by rw [List.length_append] at hl; omega)] at hr
    exact ⟨r, hr, hb, hl, by rw [← hq, List.take_left]⟩
  rcases kept1_cases ⟨b, tlActs b.length ps⟩ l' with ⟨k, hk, h1⟩ | ⟨k, a, m, ha, _, hm, h1⟩
  · rw [tl_bytes] at h1
    rw [h1] at e
    refine fin _ ?_ (by rw [List.length_append]; omega) e
    obtain ⟨q, hq⟩ := key k 0 [] (.inr rfl)
    exact ⟨q, by simpa using hq⟩
  · obtain ⟨p, hp, rfl⟩ := tl_at ps _ _ _ ha
    rw [tl_bytes] at h1
    have e2 : torn (b ++ (ps.take k).flatten) ⟨false, b.length + (ps.take k).flatten.length, p⟩ m = b ++ (ps.take k).flatten ++ p.take m := by
      unfold torn
      simp only
      have hc : ¬ (b.length + (ps.take k).flatten.length + m < (b ++ (ps.take k).flatten).length) := by rw [List.length_append]; omega
      rw [if_neg hc]
      by_cases h0 : m = 0
      · subst h0
        rw [if_pos (by omega), List.take_zero, List.append_nil]
      · rw [if_neg (by omega), ← List.length_append, Nat.add_sub_cancel_left, done_behind]
    rw [e2] at h1
    rw [h1] at e
    exact fin _ (key k m p (.inl hp)) (by rw [List.append_assoc, List.length_append]; omega) e
end Go.Proofs.Ytmcbjcbnckpfkaa.Sf
