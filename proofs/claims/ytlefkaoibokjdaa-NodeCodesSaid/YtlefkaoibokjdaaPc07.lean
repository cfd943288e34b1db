/-
  CopyI: stookref00.CopyInts.
  Get: leb.Get answers what reading a number tells.
  MathD: Plain mathematics of chapter 1 (leb): the document's own way of reading a number.
-/
import Derived.Test.YtlefkaoibokjdaaPc06
import Derived.Test.YtlefkaoibokjdaaPc01
namespace Go.Proofs.Ytlefkaoibokjdaa
open Go.RowKit
set_option linter.unusedVariables false

set_option maxHeartbeats 1000000 in
set_option maxRecDepth 100000 in
theorem copyInts_any (v : Value) (l : List Int) (B : Nat) (w : World) (h : Lv iK w B v l) (hsz : l.length ≤ 17592186044416) :
    Calls Try.prog 50 #[v] w (IsL1 iK l w) := by
  have H0 := Lib.hid h
  obtain ⟨A, c, rfl, _⟩ := h
  have hnil := Lib.hid (OwnL.nil_ iK w w.heap.size)
  go_enter Try.func50, Try.ntmps50
  go_wp2_with (at_builtin; go_must (refine wpList_append_l _ iK rfl _ _ rfl w.heap.size _ rfl [] hnil.out _ rfl _ l H0.out (by show _ * 8 ≤ _; simp; omega) (by simp [maxLen]; omega) (Nat.le_refl _) ?_; intro A3 c3 w1 hA hG))
  go_ret
  simp only [List.nil_append] at hA
  exact ⟨A3, c3, by simp, hA, (Below.refl w.heap.size w).grown hG (Nat.le_refl _) (by intro k hk; cases hk)⟩
end Go.Proofs.Ytlefkaoibokjdaa
namespace Go.Proofs.Ytlefkaoibokjdaa
open Go.RowKit
set_option linter.unusedVariables false

/-- A call that answers these three numbers, and turns nothing that was there. -/
def IsGot (r : Nat × Nat × Nat) (w : World) (e : Ending) (w' : World) : Prop :=
  e = .returned (.tuple #[.int .u64 r.1, .int .i64 r.2.1, .int .i64 r.2.2]) ∧ Below w.heap.size w w'

theorem IsGot.of {w w' : World} {r : Nat × Nat × Nat} {n k e : Nat} (h : r = (n, k, e)) (hb : Below w.heap.size w w') : IsGot r w (.returned (.tuple #[.int .u64 (n : Nat), .int .i64 (k : Nat), .int .i64 (e : Nat)])) w' := by
  subst h; exact ⟨rfl, hb⟩

set_option maxHeartbeats 400000 in
theorem get_arg (A : Option Addr) (l : List Nat) (cap : Nat) (a : Int) (w : World) (hlen : l.length ≤ maxLen) (h : a < 0 ∨ (l.length : Int) < a) :
    Calls Try.prog 66 #[.slice A l.length cap, .int .i64 a] w (IsGot (Mt.get l a) w) := by
  have HR := Lib.hid (Mt.get_arg h)
  unfold maxLen at hlen
  by_cases h1 : a < 0
  · clear h
    go_enter Try.func66, Try.ntmps66
    go_wp2
    go_step3
    go_wp2
    rw [Exit.noGoto_ret]
    go_ret3
    exact IsGot.of HR.out (Below.refl _ _)
  · have h2 : (l.length : Int) < a := by omega
    clear h
    go_enter Try.func66, Try.ntmps66
    go_wp2
    go_step3
    go_wp2
    rw [Exit.noGoto_ret]
    go_ret3
    exact IsGot.of HR.out (Below.refl _ _)

set_option maxHeartbeats 400000 in
theorem get_end (A : Option Addr) (l : List Nat) (cap : Nat) (w : World) (hlen : l.length ≤ cap) (hcap : cap ≤ maxLen) :
    Calls Try.prog 66 #[.slice A l.length cap, .int .i64 l.length] w (IsGot (Mt.get l l.length) w) := by
  have HR := Lib.hid (Mt.get_err (l := l) (a := l.length) (e := 4) (by omega) (by simp [Mt.rd_nil]) (by decide))
  unfold maxLen at hcap
  by_cases hc : cap = l.length
  · subst hc
    go_enter Try.func66, Try.ntmps66
    go_wp2
    go_step3
    go_wp2
    go_step3
    go_wp2
    refine wp_loop_rounds 1 ?_
    rw [rounds_succ]
    go_wp2
    rw [Exit.noGoto_ret]
    go_ret3
    exact IsGot.of HR.out (Below.refl _ _)
  · go_enter Try.func66, Try.ntmps66
    go_wp2
    go_step3
    go_wp2
    go_step3
    go_wp2
    refine wp_loop_rounds 1 ?_
    rw [rounds_succ]
    go_wp2
    rw [Exit.noGoto_ret]
    go_ret3
    exact IsGot.of HR.out (Below.refl _ _)

set_option maxHeartbeats 2000000 in
set_option maxRecDepth 100000 in
theorem get_some (l : List Nat) (cap b off B a : Nat) (w : World) (hlen : l.length ≤ cap) (hcap : cap ≤ maxLen) (ha : a < l.length) (hl : Bts w B (some ⟨b, off, none⟩) l) :
    Calls Try.prog 66 #[.slice (some ⟨b, off, none⟩) l.length cap, .int .i64 a] w (IsGot (Mt.get l a) w) := by
  have hle : a ≤ l.length := by omega
  unfold maxLen at hcap
  have hne : ¬ cap = a := by omega
  obtain ⟨_, _, e0, _, hcell⟩ := hl.2 (by omega)
  injection e0 with e0
  injection e0 with e1 e2
  subst e1 e2
  have hlt := hl.1
  have HC := Lib.hid hcell
  have HL := Lib.hid hlt
  clear hcell hlt hl
  go_enter Try.func66, Try.ntmps66
  go_wp2
  go_step3
  go_wp2
  go_step3
  go_wp2
  go_loop [4, 7, 22] (fun x z i => ∃ (k X : Nat), k ≤ 9 ∧ a + k ≤ l.length ∧ i = .int .i64 k ∧ z = .int .i64 0 ∧ x = .int .u64 X ∧ Hid (X < 128 ^ k) ∧ Hid (Mt.rd 0 0 (l.drop a) = Mt.rd k X (l.drop (a + k)))) (fun _ _ i => l.length - (intOf i).toNat)
  case atStart => exact ⟨0, 0, by omega, by omega, rfl, rfl, rfl, by simp [Hid], rfl⟩
  case round =>
    obtain ⟨k, X, hk9, hk, rfl, rfl, rfl, HX, HR⟩ := hrel
    by_cases hin : a + k < l.length
    · have hd := List.drop_eq_getElem_cons hin
      have hcell := HC.out (a + k) _ (List.getElem?_eq_getElem hin)
      have hc := HL.out _ (List.getElem_mem hin)
      generalize hcc : l[a + k] = c at hd hcell hc
      have HD : Hid (Mt.rd 0 0 (l.drop a) = Mt.rd k X (c :: l.drop (a + k + 1))) := by unfold Hid; rw [HR.out, hd]
      rw [← Nat.add_assoc] at hcell
      have hkin : k < l.length - a := by omega
      clear hcc hd HR HC HL
      by_cases h1 : k = 9 ∧ 1 < c
      · have HE := Lib.hid (HD.out.trans (Mt.rd_form (.inl h1)))
        obtain ⟨rfl, h1c⟩ := h1
        clear HD HX
        go_wp2
        go_ret3
        exact IsGot.of (Mt.get_err hle HE.out (by decide)) (Below.refl _ _)
      · by_cases h2 : 0 < k ∧ c = 0
        · have HE := Lib.hid (HD.out.trans (Mt.rd_form (.inr h2)))
          obtain ⟨h2k, rfl⟩ := h2
          clear HD HX
          by_cases h9 : k = 9
          · subst h9
            go_wp2
            go_ret3
            exact IsGot.of (Mt.get_err hle HE.out (by decide)) (Below.refl _ _)
          · go_wp2
            go_ret3
            exact IsGot.of (Mt.get_err hle HE.out (by decide)) (Below.refl _ _)
        · by_cases h3 : c < 128
          · have HE := Lib.hid (HD.out.trans (Mt.rd_last (by omega) h3))
            clear HD
            by_cases h9 : 8 < k
            · have h1c : c < 2 := by omega
              have hc0 : 0 < c := by omega
              have HV := Lib.hid (or_step k X c hk9 HX.out hc (by omega))
              clear h1 h2
              go_wp2
              go_ret3
              rw [HV.out, Nat.mod_eq_of_lt h3]
              obtain rfl : k = 9 := by omega
              exact IsGot.of (Mt.get_ok hle HE.out) (Below.refl _ _)
            · have h9' : k < 9 := by omega
              have HV := Lib.hid (or_step k X c hk9 HX.out hc (by omega))
              by_cases hk0 : k < 1
              · clear h1 h2 h9
                go_wp2
                go_ret3
                rw [HV.out, Nat.mod_eq_of_lt h3]
                exact IsGot.of (Mt.get_ok hle HE.out) (Below.refl _ _)
              · have hc0 : 0 < c := by omega
                have hk0' : 0 < k := by omega
                clear h1 h2 hk0 h9
                go_wp2
                go_ret3
                rw [HV.out, Nat.mod_eq_of_lt h3]
                exact IsGot.of (Mt.get_ok hle HE.out) (Below.refl _ _)
          · have h9 : k < 9 := by omega
            have HE := Lib.hid (HD.out.trans (Mt.rd_on h1 (by omega)))
            have HV := Lib.hid (or_step k X c hk9 HX.out hc (by omega))
            have HX2 := Lib.hid (Mt.step_lt (c := c) HX.out)
            clear HD h1 h2 HX
            go_wp2
            all_goals
              refine ⟨⟨_, _, _, _, _, _, _, ?rel, rfl, rfl, rfl, rfl, rfl, rfl, rfl⟩, ?measure⟩
              case rel => exact ⟨k + 1, by omega, by omega, by go_num, rfl, X + c % 128 * 128 ^ k, by rw [HV.out], HX2.out, HE.out⟩
              case measure => simp [intOf]; omega
    · have hk0 : a + k = l.length := by omega
      have HE : Hid (Mt.rd 0 0 (l.drop a) = (0, 0, 4)) := by unfold Hid; rw [HR.out, hk0]; simp [Mt.rd_nil]
      have hkk : l.length - a ≤ k := by omega
      clear HR HC HL HX hk0
      go_wp2
      go_ret3
      exact IsGot.of (Mt.get_err hle HE.out (by decide)) (Below.refl _ _)

theorem get_any (v : Value) (l : List Nat) (B : Nat) (a : Int) (w : World) (h : Bv w B v l) :
    Calls Try.prog 66 #[v, .int .i64 a] w (IsGot (Mt.get l a) w) := by
  obtain ⟨A, c, rfl, h1, h2, h3, h4⟩ := h
  by_cases ha : a < 0 ∨ (l.length : Int) < a
  · exact get_arg A l c a w (by omega) ha
  · obtain ⟨k, rfl⟩ := Int.eq_ofNat_of_zero_le (show 0 ≤ a by omega)
    by_cases hk : k = l.length
    · subst hk
      exact get_end A l c w h1 h2
    · have hlt : k < l.length := by omega
      obtain ⟨b, off, rfl, _⟩ := h4.2 (by omega)
      exact get_some l c b off B k w h1 h2 hlt h4
end Go.Proofs.Ytlefkaoibokjdaa
namespace Go.Proofs.Ytlefkaoibokjdaa.Mt
theorem val_snoc (s : List Nat) (c : Nat) : val (s ++ [c]) = val s + c % 128 * 128 ^ s.length := by
  induction s with
  | nil => simp [val]
  | cons x r ih =>
    simp only [List.cons_append, val, ih, List.length_cons, Nat.pow_succ]
    rw [Nat.mul_add, ← Nat.mul_assoc, Nat.mul_comm 128 (c % 128), Nat.mul_assoc (c % 128), Nat.mul_comm 128 (128 ^ _)]
    omega
theorem val_lt (s : List Nat) : val s < 128 ^ s.length := by
  induction s with
  | nil => simp [val]
  | cons x r ih => simp only [val, List.length_cons, Nat.pow_succ]; omega
theorem val_drop (s : List Nat) : ∀ j, val (s.drop j) ≤ val s := by
  induction s with
  | nil => intro j; simp [val]
  | cons x r ih =>
    intro j
    cases j with
    | zero => simp
    | succ j => have := ih j; simp only [List.drop_succ_cons, val]; omega
theorem take_snoc {s : List Nat} {k c : Nat} {r : List Nat} (h : s.drop k = c :: r) : s.take (k + 1) = s.take k ++ [c] := by
  rw [List.take_add, h]; rfl
theorem val_take {s : List Nat} {k c : Nat} {r : List Nat} (h : s.drop k = c :: r) : val (s.take (k + 1)) = val (s.take k) + c % 128 * 128 ^ k := by
  have hk : k < s.length := by
    rcases Nat.lt_or_ge k s.length with h1 | h1
    · exact h1
    · rw [List.drop_of_length_le h1] at h; cases h
  rw [take_snoc h, val_snoc, List.length_take, Nat.min_eq_left (by omega)]
theorem val_small {s : List Nat} {k c : Nat} {r : List Nat} (h : s.drop k = c :: r) (hk : k ≤ 9) (hc : c < 128) (h9 : 8 < k → c < 2) : val (s.take (k + 1)) < 18446744073709551616 := by
  have h1 := val_lt (s.take k)
  have h2 : (s.take k).length ≤ k := List.length_take_le _ _
  have h3 : val (s.take k) < 128 ^ k := Nat.lt_of_lt_of_le h1 (Nat.pow_le_pow_right (by decide) h2)
  rw [val_take h, Nat.mod_eq_of_lt hc]
  by_cases h8 : 8 < k
  · obtain rfl : k = 9 := by omega
    have := h9 h8
    omega
  · have h4 : c * 128 ^ k ≤ 127 * 128 ^ k := Nat.mul_le_mul_right _ (by omega)
    have h5 : (128 : Nat) ^ k ≤ 128 ^ 8 := Nat.pow_le_pow_right (by decide) (by omega)
    omega
theorem drop_byte {l : List Nat} {a k c : Nat} (hd : l.drop (a + k) = c :: l.drop (a + k + 1)) : (l.drop a).drop k = c :: l.drop (a + k + 1) := by rw [List.drop_drop]; exact hd
theorem horner {s : List Nat} {p d : Nat} {r : List Nat} (h : s.drop p = d :: r) : val (s.drop p) = d % 128 + 128 * val (s.drop (p + 1)) := by
  have hr2 : s.drop (p + 1) = r := by
    have := congrArg (List.drop 1) h
    simpa [List.drop_drop] using this
  rw [hr2, h]; rfl
theorem rd_take {s : List Nat} {k c : Nat} {r : List Nat} (hr : rd 0 0 s = rd k (val (s.take k)) (s.drop k)) (h : s.drop k = c :: r) (h9 : ¬ (k = 9 ∧ 1 < c)) (hc : 128 ≤ c) : rd 0 0 s = rd (k + 1) (val (s.take (k + 1))) (s.drop (k + 1)) := by
  have hr2 : s.drop (k + 1) = r := by
    have := congrArg (List.drop 1) h
    simpa [List.drop_drop] using this
  rw [hr, h, rd_on h9 hc, val_take h, hr2]
end Go.Proofs.Ytlefkaoibokjdaa.Mt
