/-
  The program's queue of int: Push.
-/
import Derived.Test.YtiogmgpkaiicpaaQuRiseI
import Derived.Test.YtiogmgpkaiicpaaStepM
import Derived.Deep.RegionLaw
namespace Go.Proofs.Ytiogmgpkaiicpaa
open Go.RowKit
set_option linter.unusedVariables false

set_option maxHeartbeats 4000000 in
theorem ppushI' {w : World} {qb m fn : Nat} {caps : Array Value} {v : Value} {A : List (Int × Nat)} {lt : Int → Int → Bool}
    (hd : HeadI w qb fn caps v m) (hown : OwnL qIK w 0 v A) (hap : v.ownBlock ≠ some qb) (ho : Qu.Order lt) (hl : Less intV I64 fn caps lt w (fun k => k = qb ∨ v.ownBlock = some k)) (hh : Qu.IsHeap lt A)
    (xt : Int) (hx : I64 xt) (hm : m ≤ 4194304) (hA : A.length ≤ 4194304) :
    Calls Try.prog 13 #[.pointer (some ⟨qb, 0, none⟩), .int .i64 xt] w (fun e w' => e = .returned (.int .i64 0) ∧ ∃ g n c A', A'.Perm (A ++ [(xt, m)]) ∧ Qu.IsHeap lt A' ∧ HasI w' qb g n c A' (m + 1) fn caps ∧ Turned (fun k => k = qb ∨ v.ownBlock = some k) w w' ∧ (v.ownBlock = some g ∨ w.heap.size ≤ g)) := by
  obtain ⟨vA, vn, vc, rfl⟩ : ∃ A0 n0 c0, v = .slice A0 n0 c0 := by
    obtain ⟨A0, c0, e, _⟩ := hown.form_
    exact ⟨_, _, _, e⟩
  have HM := Lib.hid (pmadeI hd)
  have d1 := hd.list
  have d2 := hd.turns
  have bqb : qb < w.heap.size := hd.lt_
  have hb1 : Below w.heap.size w (w.alloc (.cells #[.int .i64 xt, .int .u64 (m : Nat)] 65)) := (Below.refl _ w).alloc (Nat.le_refl _) _
  have d1a := (hb1.cell (show _ < _ from bqb)).trans d1
  have HOWN := Lib.hid hown
  have HD := Lib.hid hd
  have HAP := Lib.hid hap
  have HL := Lib.hid hl
  have HO := Lib.hid ho
  have HH := Lib.hid hh
  have HX := Lib.hid hx
  clear hb1 hown hd hap hl ho hh hx
  go_enter Try.func13, Try.ntmps13
  go_wp2_with (fail)
  refine (HM.out).mono ?_
  rintro e w1 ⟨rfl, rfl⟩
  clear HM
  go_wp2
  go_region_law (refine step_push_m w.drew qIK rfl _ _ rfl 0 (.slice vA vn vc) rfl A HOWN.out.drew_ rfl (xt, m) ⟨HX.out, by omega⟩ _ rfl _ rfl (by show (_ + 1) * 16 ≤ _; omega) (by simp only [maxLen]; omega) (Nat.zero_le _) ?_; intro A' c' w' h1 h2 h3; have hhd : Hid (HeadI w' qb fn caps (.slice vA vn vc) m) := HD.out.block_ ((Turned.of_grown h2).block qb bqb HAP.out); have hcl := hhd.out.list; have hfz := hhd.out.cool 1; have HG1 := Lib.hid h1; have HG2 := Lib.hid (Turned.of_grown h2); have HM := Lib.hid h3; clear h1 h2 h3)
  all_goals (
    obtain ⟨g, hg⟩ : ∃ g, A' = some ⟨g, 0, none⟩ := by
      obtain ⟨g, y, e, _⟩ := HG1.out.at_ (k := A.length) (by simp)
      exact ⟨g, e⟩
    subst hg
    have hgq : qb ≠ g := fun e => by
      rcases HM.out g rfl with h | h
      · exact HAP.out (by rw [h, e])
      · have h : w.heap.size ≤ g := h
        omega
    have hmv : (Value.slice vA vn vc).ownBlock = some g ∨ w.heap.size ≤ g := HM.out g rfl
    have ht1 : Turned (fun k => k = qb ∨ (Value.slice vA vn vc).ownBlock = some k) w w' := by
      have h := HG2.out.mono (G := fun k => k = qb ∨ (Value.slice vA vn vc).ownBlock = some k) (fun k _ e => .inr e)
      exact ⟨h.os, h.tape, h.output, h.size, h.block⟩
    have ht2 := ht1.setCell (p := ⟨qb, 1, none⟩) (fun _ => .inl rfl) (.slice (some ⟨g, 0, none⟩) (A.length + 1) c')
    have hh2 := hhd.out.setList (.slice (some ⟨g, 0, none⟩) (A.length + 1) c')
    have ho2 := HG1.out.of_block (w' := w'.setCell ⟨qb, 1, none⟩ (.slice (some ⟨g, 0, none⟩) (A.length + 1) c')) (fun k hk => heap_setCell_other _ _ _ _ (by have e : g = k := Option.some.inj hk; show k ≠ qb; omega))
    clear hcl hfz hhd HG1 HG2 HM d1 d2 d1a
    generalize w'.setCell ⟨qb, 1, none⟩ (.slice (some ⟨g, 0, none⟩) (A.length + 1) c') = w2 at *
    have c2 := hh2.turns
    have f2 := hh2.cool 2
    have hwm : IntKind.u64.wrap ((m : Int) + 1) = ((m : Int) + 1) := by rw [IntKind.wrap_u64]; omega
    have ht3 := ht2.setCell (p := ⟨qb, 2, none⟩) (fun _ => .inl rfl) (.int .u64 ((m + 1 : Nat) : Int))
    have hh3 := hh2.setTurns (m + 1)
    have ho3 := ho2.of_block (w' := w2.setCell ⟨qb, 2, none⟩ (.int .u64 ((m + 1 : Nat) : Int))) (fun k hk => heap_setCell_other _ _ _ _ (by have e : g = k := Option.some.inj hk; show k ≠ qb; omega))
    obtain ⟨w3, hw3⟩ : ∃ w3, w2.setCell ⟨qb, 2, none⟩ (.int .u64 ((m : Int) + 1)) = w3 := ⟨_, rfl⟩
    change Turned _ _ (w2.setCell ⟨qb, 2, none⟩ (.int .u64 ((m : Int) + 1))) at ht3
    change HeadI (w2.setCell ⟨qb, 2, none⟩ (.int .u64 ((m : Int) + 1))) _ _ _ _ _ at hh3
    change OwnL _ (w2.setCell ⟨qb, 2, none⟩ (.int .u64 ((m : Int) + 1))) _ _ _ at ho3
    rw [hw3] at ht3 hh3 ho3
    have HQ : Hid (HasI w3 qb g (A.length + 1) c' (A ++ [(xt, m)]) (m + 1) fn caps) := ⟨hh3, ho3, hgq, by simp⟩
    have HT3 := Lib.hid ht3
    have HUP := Lib.hid (priseI HQ.out HO.out (HL.out.step ht3 (fun k hk h => by
      rcases h with h | h
      · exact .inl h
      · subst h
        rcases hmv with h2 | h2
        · exact .inr h2
        · omega)) (i := A.length) rfl (Qu.Up.push HH.out (xt, m)) (by omega))
    have HMV := Lib.hid hmv
    clear ht1 ht2 ht3 hh2 ho2 hh3 ho3 hmv hgq
    go_wp2_with (fail)
    refine (HUP.out).mono ?_
    rintro e w4 ⟨rfl, A2, hp, hheap, hq4, ht4⟩
    have HT4 := Lib.hid (HT3.out.trans ht4 (fun k hk h => by
      rcases h with h | h
      · exact .inl h
      · subst h
        rcases HMV.out with h2 | h2
        · exact .inr h2
        · omega))
    have HE := Lib.hid (show ∃ g n c A', A'.Perm (A ++ [(xt, m)]) ∧ Qu.IsHeap lt A' ∧ HasI w4 qb g n c A' (m + 1) fn caps ∧ Turned (fun k => k = qb ∨ (Value.slice vA vn vc).ownBlock = some k) w w4 ∧ ((Value.slice vA vn vc).ownBlock = some g ∨ w.heap.size ≤ g) from ⟨g, _, _, A2, hp, hheap, hq4, HT4.out, HMV.out⟩)
    clear hp hheap hq4 ht4 HT4 HUP HQ HT3 c2 f2
    go_wp2
    go_ret
    exact ⟨rfl, HE.out⟩)
end Go.Proofs.Ytiogmgpkaiicpaa
