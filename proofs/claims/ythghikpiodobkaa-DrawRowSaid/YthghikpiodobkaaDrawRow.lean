/-
  DrawRow: the words of a seed are what Next tells, one behind the other. No condition.
-/
import Derived.Test.YthghikpiodobkaaFrameN
import Derived.Test.YthghikpiodobkaaDrLaw
namespace Go.Proofs.Ythghikpiodobkaa.drawRow
open Go.ChangeShapes Go.WideShapes Go.ChangeAt Go.RowKit
open Go.ChangeMaps (open_string shut_string)
set_option linter.unusedVariables false

set_option maxHeartbeats 1000000 in
set_option maxRecDepth 100000 in
theorem walk (w : World) (n0 : Nat) (b0 : Mt.B64 n0) (n1 : Nat) (b1 : n1 < 256) :
    Calls Try.prog 7 #[.int .u64 n0, .int .u8 n1] w (IsBool true w) := by
  obtain ⟨s, rfl⟩ := nl_of_u64 b0
  have HN := Lib.hid (fun x w => pnext_any x w)
  have HD : Hid (∀ (k : Nat), k < 256 → ∀ w, Calls Try.prog 17 #[.int .u64 (nl s : Nat), .int .i64 k] w (fun e w' => e = .returned (.tuple #[.int .u64 (nl (Dr.word s k) : Nat), .int .i64 0]) ∧ w = w')) := fun k hk w => by
    have := pword_any s (k : Int) (by omega) w
    unfold IsWordE at this
    rw [show Dr.wordOf s (k : Int) = (nl (Dr.word s k), 0) by unfold Dr.wordOf; rw [if_neg (by omega)]; rfl] at this
    exact this
  have HW := Lib.hid (fun w => works_any w)
  go_enter Try.func7, Try.ntmps7
  go_wp2
  go_loopw [5, 6] (fun t i wr => ∃ k : Nat, k ≤ n1 ∧ i = .int .i64 k ∧ t = .int .u64 (nl (Dr.state s k) : Nat) ∧ w = wr) (fun _ i _ => n1 - (intOf i).toNat)
  case atStart => exact ⟨0, by omega, rfl, by rw [Dr.state_zero], rfl⟩
  case round =>
    obtain ⟨k, hk, rfl, rfl, rfl⟩ := hrel
    by_cases hlt : k < n1
    · have hi : (k : Int) < (n1 : Int) := by omega
      have HK : Hid (k < n1) := hlt
      have HWs := Lib.hid (Dr.word_state s k)
      have HSs := Lib.hid (Dr.state_succ s k)
      have HDk := Lib.hid (HD.out k (by omega))
      obtain ⟨t, ht⟩ : ∃ t, Dr.state s k = t := ⟨_, rfl⟩
      rw [ht] at HWs HSs ⊢
      clear ht hlt hk
      go_wp2_with (fail)
      refine (HN.out _ _).mono ?_
      rintro e w1 ⟨rfl, rfl⟩
      rw [HWs.out]
      go_wp2_with (fail)
      refine (HDk.out _).mono ?_
      rintro e w1 ⟨rfl, rfl⟩
      go_wp2
      have := HK.out
      exact ⟨⟨k + 1, by omega, by go_num, by rw [HSs.out], trivial⟩, by simp [intOf]; omega⟩
    · have hkn : k = n1 := by omega
      subst hkn
      clear hk hlt
      go_wp2_with (fail)
      refine (HW.out _).mono ?_
      rintro e w1 ⟨rfl, rfl⟩
      go_wp2
      go_ret
      exact ⟨rfl, Below.refl _ _⟩

/-! ### From the walk to the row -/
set_option maxRecDepth 100000 in
theorem lifted (os : Os) (started : os.Started) (H : Type) (enc : TypeId × Value → H) :
    ReturnsInHanded {} Try.checked os 7 .any (Rows.drawRowSpec.pre6 enc Try.prog Try.f7 Rows.drawRowRow.domain false) (Rows.drawRowSpec.post enc Try.prog Try.f7 false true false false) := by
  refine returnsInHanded_of_change (C := Try.checked) own started (by kernel_rfl) Try.func7
    (ChangeSpec.witness6 (enc := enc) (C := Try.checked) false ⟨#[], #[.int .u64 0, .int .u8 0], []⟩ 8 (by kernel_rfl) (by kernel_rfl) (by kernel_rfl) (by kernel_rfl)) ?_
  intro W base args ds gs before hval0 hW hcnd _
  have hval : ∀ (j : Nat) t v, Try.f7.params[j]? = some t → args[j]? = some v → Value.okWide Try.prog W .any base t v := hval0
  have hW' := hW
  obtain ⟨p, q, hA0, hV, rfl, hfz, hnd⟩ := hW
  have hA : DataW.TrodAll enc Try.prog W 0 (fun _ => true) true Try.f7.params.toList args.toList ds p := hA0
  rw [Try.params7] at hA hval
  obtain ⟨v0, vs0, d0, ds0, p0, q0, hargs, rfl, rfl, h0, r0⟩ := trodAll_cons hA
  obtain ⟨v1, vs1, d1, ds1, p1, q1, rfl, rfl, rfl, h1, r1⟩ := trodAll_cons r0
  obtain ⟨rfl, rfl, rfl⟩ := trodAll_nil r1
  obtain rfl : args = #[v0, v1] := by cases args; simp_all
  obtain ⟨rfl, rfl⟩ := trodVars_none hV
  obtain ⟨a0, rfl, rfl, rfl, w0⟩ := open_int Try.underlying22 (hval 0 22 v0 rfl rfl) h0
  obtain ⟨n0, e0, b0⟩ := u64_nat w0
  subst e0
  obtain ⟨a1, rfl, rfl, rfl, w1⟩ := open_int Try.underlying5 (hval 1 5 v1 rfl rfl) h1
  obtain ⟨n1, e1, b1⟩ := u8_nat w1
  subst e1
  clear hA0 hval0
  refine (walk W n0 b0 n1 b1).mono fun e W' ⟨he, bel⟩ => ?_
  subst he
  exact ⟨_, rfl, _, _, _, [], _, [], hW', trodAll_mk1 (shut_bool Try.underlying4 _), (trodAll_cons_mk (shut_int Try.underlying22 w0) (trodAll_cons_mk (shut_int Try.underlying5 w1) trodAll_mk0)), rfl, bel.frame _, fun h => by cases h⟩

theorem proved : Rows.DrawRowSaid :=
  OpenClaim.holds_of_wide 7 Try.f7 rfl rfl rfl rfl rfl rfl rfl ⟨rfl, rfl, rfl, rfl, rfl⟩ rfl rfl rfl rfl rfl (by kernel_rfl) Try.func7 (by kernel_rfl)
    (of_decide_eq_true (by kernel_rfl)) (by unfold Func.isWrapper; first | (rw [if_pos (by decide +kernel)]; kernel_rfl) | (rw [if_neg (by decide +kernel)]; exact ⟨rfl, rfl⟩))
    (fun os started H enc _ => lifted os started H enc)

end Go.Proofs.Ythghikpiodobkaa.drawRow
