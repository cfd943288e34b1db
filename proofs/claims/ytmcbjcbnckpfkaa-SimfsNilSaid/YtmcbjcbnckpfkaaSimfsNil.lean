/-
  SimfsNil: of a disk that is not there, and of one that New did not make, all is refused, or nothing. No condition.
-/
import Derived.Test.YtmcbjcbnckpfkaaPn06
import Derived.Test.YtmcbjcbnckpfkaaPn23
import Derived.Test.YtmcbjcbnckpfkaaPn24
import Derived.Deep.WholeRow
namespace Go.Proofs.Ytmcbjcbnckpfkaa.simfsNil
open Go.ChangeShapes Go.WideShapes Go.ChangeAt Go.RowKit
open Go.ChangeMaps (open_string shut_string)
set_option linter.unusedVariables false

set_option maxHeartbeats 4000000 in
set_option maxRecDepth 100000 in
theorem walk (w : World) (x : Raw) (o : Sf.Op) (k0 : RawOk x) (h0 : Deed w w.heap.size x o) (v1 : Value) (l1 : List Int) (h1 : Lv iK w w.heap.size v1 l1) :
    Calls Try.prog 5 #[.agg (deedC x), v1] w (IsBool true w) := by
  clear h0 h1
  obtain ⟨q0, q1, q2, q3⟩ := k0
  obtain ⟨call, name, to, at_, A, n, c⟩ := x
  simp only at q0 q1 q2 q3
  unfold deedC
  obtain ⟨p, hp⟩ : ∃ p, w.heap.size = p := ⟨_, rfl⟩
  obtain ⟨W0, hW0⟩ : ∃ W, w.alloc (.cells #[.int .u8 (call : Nat), .string name, .string to, .int .i64 at_, .slice A n c] 35) = W := ⟨_, rfl⟩
  have hs0 : W0.heap.size = p + 1 := by rw [← hW0, ← hp]; simp
  obtain ⟨W, hW⟩ : ∃ W, W0.alloc (.cells #[.int .i64 0, .map none, .int .i64 0, .map none, .slice none 0 0, .map none, .int .i64 0, .int .i64 0, .bool false] 50) = W := ⟨_, rfl⟩
  have hs : W.heap.size = p + 2 := by rw [← hW]; simp [hs0]
  have hr0 : W.heap[p]? = some (.cells #[.int .u8 (call : Nat), .string name, .string to, .int .i64 at_, .slice A n c] 35 (0, 0)) := by
    rw [← hW, heap_alloc_old _ _ (by omega), ← hW0, ← hp]
    exact heap_alloc_new _ _
  have hr1 : W.heap[p + 1]? = some (.cells #[.int .i64 0, .map none, .int .i64 0, .map none, .slice none 0 0, .map none, .int .i64 0, .int .i64 0, .bool false] 50 (0, 0)) := by
    rw [← hW, ← hs0]
    exact heap_alloc_new _ _
  have hb : Below p w W := by rw [← hW, ← hW0, ← hp]; exact ((Below.refl _ _).alloc (Nat.le_refl _) _).alloc (by simp) _
  have HR : Hid (∀ w', Below W.heap.size W w' → w'.heap[p]? = some (.cells #[.int .u8 (call : Nat), .string name, .string to, .int .i64 at_, .slice A n c] 35 (0, 0))) := fun w' hb' => (hb'.block p (by omega)).trans hr0
  have HZ : Hid (∀ w', Below W.heap.size W w' → NoDisk w' (.pointer (some ⟨p + 1, 0, none⟩))) := fun w' hb' => .inr ⟨p + 1, rfl, by
    rw [cell_of_row _ _ 1 _ _ _ ((hb'.block (p + 1) (by omega)).trans hr1)]; rfl⟩
  have HN : Hid (∀ w', NoDisk w' (.pointer none)) := fun w' => .inl rfl
  have HZW := Lib.hid (HZ.out W (Below.refl _ _))
  have HB := Lib.hid hb
  have HS := Lib.hid hs
  have HP := Lib.hid hp
  have e0 : W.cell? ⟨p, 0, none⟩ = some (.int .u8 (call : Nat)) := by rw [cell_of_row _ _ 0 _ _ _ hr0]; rfl
  have e1 : W.cell? ⟨p, 1, none⟩ = some (.string name) := by rw [cell_of_row _ _ 1 _ _ _ hr0]; rfl
  have e2 : W.cell? ⟨p, 2, none⟩ = some (.string to) := by rw [cell_of_row _ _ 2 _ _ _ hr0]; rfl
  have e3 : W.cell? ⟨p, 3, none⟩ = some (.int .i64 at_) := by rw [cell_of_row _ _ 3 _ _ _ hr0]; rfl
  have e4 : W.cell? ⟨p, 4, none⟩ = some (.slice A n c) := by rw [cell_of_row _ _ 4 _ _ _ hr0]; rfl
  clear hr0 hr1 hb
  go_enter Try.func5, Try.ntmps5
  have C := Lib.hid (pfail_no (HN.out W) v1)
  go_wp2_with fail
  refine C.out.mono ?_
  rintro e1 w1 ⟨rfl, rfl⟩
  clear C
  have C := Lib.hid (pfail_no HZW.out v1)
  go_wp2_with fail
  refine C.out.mono ?_
  rintro e1 w1 ⟨rfl, rfl⟩
  clear C
  have C := Lib.hid (pread_no (HN.out W) (.string name) (.int .i64 at_) (.int .i64 1))
  go_wp2_with fail
  refine C.out.mono ?_
  rintro e1 w1 ⟨rfl, rfl⟩
  clear C
  have C := Lib.hid (psize_no HZW.out (.string name))
  go_wp2_with fail
  refine C.out.mono ?_
  rintro e1 w1 ⟨rfl, rfl⟩
  clear C
  by_cases hc : call ≤ 8
  · have hci : (call : Int) ≤ 8 := by omega
    have C := Lib.hid (pdo_no (HN.out W) ⟨call, name, to, at_, A, n, c⟩ hc)
    change Hid (Calls _ _ #[_, .agg #[.int .u8 (call : Nat), .string name, .string to, .int .i64 at_, .slice A n c]] _ _) at C
    go_wp2_with fail
    refine C.out.mono ?_
    rintro e5 W2 ⟨rfl, hb2⟩
    have HB2 := Lib.hid hb2
    have hr := HR.out W2 hb2
    have d0 : W2.cell? ⟨p, 0, none⟩ = some (.int .u8 (call : Nat)) := by rw [cell_of_row _ _ 0 _ _ _ hr]; rfl
    have d1 : W2.cell? ⟨p, 1, none⟩ = some (.string name) := by rw [cell_of_row _ _ 1 _ _ _ hr]; rfl
    have d2 : W2.cell? ⟨p, 2, none⟩ = some (.string to) := by rw [cell_of_row _ _ 2 _ _ _ hr]; rfl
    have d3 : W2.cell? ⟨p, 3, none⟩ = some (.int .i64 at_) := by rw [cell_of_row _ _ 3 _ _ _ hr]; rfl
    have d4 : W2.cell? ⟨p, 4, none⟩ = some (.slice A n c) := by rw [cell_of_row _ _ 4 _ _ _ hr]; rfl
    clear C hb2 hr
    have C := Lib.hid (pdo_no (HZ.out W2 HB2.out) ⟨call, name, to, at_, A, n, c⟩ hc)
    change Hid (Calls _ _ #[_, .agg #[.int .u8 (call : Nat), .string name, .string to, .int .i64 at_, .slice A n c]] _ _) at C
    go_wp2_with fail
    refine C.out.mono ?_
    rintro e6 W3 ⟨rfl, hb3⟩
    have HB3 := Lib.hid (HB2.out.trans (hb3.mono HB2.out.size))
    have HZ3 := Lib.hid (HZ.out W3 HB3.out)
    clear C hb3
    have C := Lib.hid (pcopy_no (HN.out W3))
    go_wp2_with fail
    refine C.out.mono ?_
    rintro e1 w1 ⟨rfl, rfl⟩
    clear C
    have C := Lib.hid (pcopy_no HZ3.out)
    go_wp2_with fail
    refine C.out.mono ?_
    rintro e1 w1 ⟨rfl, rfl⟩
    clear C
    have C := Lib.hid (pnames_no (HN.out W3))
    go_wp2_with fail
    refine C.out.mono ?_
    rintro e1 w1 ⟨rfl, rfl⟩
    clear C
    have C := Lib.hid (pnames_no HZ3.out)
    go_wp2_with fail
    refine C.out.mono ?_
    rintro e1 w1 ⟨rfl, rfl⟩
    clear C
    have C := Lib.hid (pused_no (HN.out W3))
    go_wp2_with fail
    refine C.out.mono ?_
    rintro e1 w1 ⟨rfl, rfl⟩
    clear C
    have C := Lib.hid (pused_no HZ3.out)
    go_wp2_with fail
    refine C.out.mono ?_
    rintro e1 w1 ⟨rfl, rfl⟩
    clear C
    have C := Lib.hid (proom_no (HN.out W3))
    go_wp2_with fail
    refine C.out.mono ?_
    rintro e1 w1 ⟨rfl, rfl⟩
    clear C
    have C := Lib.hid (proom_no HZ3.out)
    go_wp2_with fail
    refine C.out.mono ?_
    rintro e1 w1 ⟨rfl, rfl⟩
    clear C
    have C := Lib.hid (pacts_no (HN.out W3))
    go_wp2_with fail
    refine C.out.mono ?_
    rintro e1 w1 ⟨rfl, rfl⟩
    clear C
    have C := Lib.hid (pacts_no HZ3.out)
    go_wp2_with fail
    refine C.out.mono ?_
    rintro e1 w1 ⟨rfl, rfl⟩
    clear C
    have C := Lib.hid (pdead_no (HN.out W3))
    go_wp2_with fail
    refine C.out.mono ?_
    rintro e1 w1 ⟨rfl, rfl⟩
    clear C
    have C := Lib.hid (pdead_no HZ3.out)
    go_wp2_with fail
    refine C.out.mono ?_
    rintro e1 w1 ⟨rfl, rfl⟩
    clear C
    have C := Lib.hid (works_sf W3)
    go_wp2_with fail
    refine C.out.mono ?_
    rintro e9 w9 ⟨rfl, hb9⟩
    have HB9 := Lib.hid hb9
    clear C hb9
    go_wp2
    go_ret
    have hs3 := HB3.out.size
    exact ⟨rfl, (by rw [HP.out]; exact (HB.out.trans (HB3.out.mono (by have := HS.out; omega))).trans (HB9.out.mono (by have := HS.out; omega)))⟩
  · have hci : ¬ (call : Int) ≤ 8 := by omega
    have C := Lib.hid (pcopy_no (HN.out W))
    go_wp2_with fail
    refine C.out.mono ?_
    rintro e1 w1 ⟨rfl, rfl⟩
    clear C
    have C := Lib.hid (pcopy_no HZW.out)
    go_wp2_with fail
    refine C.out.mono ?_
    rintro e1 w1 ⟨rfl, rfl⟩
    clear C
    have C := Lib.hid (pnames_no (HN.out W))
    go_wp2_with fail
    refine C.out.mono ?_
    rintro e1 w1 ⟨rfl, rfl⟩
    clear C
    have C := Lib.hid (pnames_no HZW.out)
    go_wp2_with fail
    refine C.out.mono ?_
    rintro e1 w1 ⟨rfl, rfl⟩
    clear C
    have C := Lib.hid (pused_no (HN.out W))
    go_wp2_with fail
    refine C.out.mono ?_
    rintro e1 w1 ⟨rfl, rfl⟩
    clear C
    have C := Lib.hid (pused_no HZW.out)
    go_wp2_with fail
    refine C.out.mono ?_
    rintro e1 w1 ⟨rfl, rfl⟩
    clear C
    have C := Lib.hid (proom_no (HN.out W))
    go_wp2_with fail
    refine C.out.mono ?_
    rintro e1 w1 ⟨rfl, rfl⟩
    clear C
    have C := Lib.hid (proom_no HZW.out)
    go_wp2_with fail
    refine C.out.mono ?_
    rintro e1 w1 ⟨rfl, rfl⟩
    clear C
    have C := Lib.hid (pacts_no (HN.out W))
    go_wp2_with fail
    refine C.out.mono ?_
    rintro e1 w1 ⟨rfl, rfl⟩
    clear C
    have C := Lib.hid (pacts_no HZW.out)
    go_wp2_with fail
    refine C.out.mono ?_
    rintro e1 w1 ⟨rfl, rfl⟩
    clear C
    have C := Lib.hid (pdead_no (HN.out W))
    go_wp2_with fail
    refine C.out.mono ?_
    rintro e1 w1 ⟨rfl, rfl⟩
    clear C
    have C := Lib.hid (pdead_no HZW.out)
    go_wp2_with fail
    refine C.out.mono ?_
    rintro e1 w1 ⟨rfl, rfl⟩
    clear C
    have C := Lib.hid (works_sf W)
    go_wp2_with fail
    refine C.out.mono ?_
    rintro e9 w9 ⟨rfl, hb9⟩
    have HB9 := Lib.hid hb9
    clear C hb9
    go_wp2
    go_ret
    exact ⟨rfl, (by rw [HP.out]; exact HB.out.trans (HB9.out.mono (by have := HS.out; omega)))⟩

/-! ### From the walk to the row -/
set_option maxRecDepth 100000 in
theorem lifted (os : Os) (started : os.Started) (H : Type) (enc : TypeId × Value → H) :
    ReturnsInHanded {} Try.checked os 5 .any (Rows.simfsNilSpec.pre6 enc Try.prog Try.f5 Rows.simfsNilRow.domain false) (Rows.simfsNilSpec.post enc Try.prog Try.f5 false true false false) := by
  refine returnsInHanded_of_change (C := Try.checked) own started (by kernel_rfl) Try.func5
    (ChangeSpec.witness6 (enc := enc) (C := Try.checked) false ⟨#[], #[.agg #[.int .u8 0, .string { data := #[] }, .string { data := #[] }, .int .i64 0, .slice none 0 0], .slice none 0 0], []⟩ 8 (by kernel_rfl) (by kernel_rfl) (by kernel_rfl) (by kernel_rfl)) ?_
  intro W base args ds gs before hval0 hW hcnd _
  have hval : ∀ (j : Nat) t v, Try.f5.params[j]? = some t → args[j]? = some v → Value.okWide Try.prog W .any base t v := hval0
  have hW' := hW
  obtain ⟨p, q, hA0, hV, rfl, hfz, hnd⟩ := hW
  have hA : DataW.TrodAll enc Try.prog W 0 (fun _ => true) true Try.f5.params.toList args.toList ds p := hA0
  rw [Try.params5] at hA hval
  obtain ⟨v0, vs0, d0, ds0, p0, q0, hargs, rfl, rfl, h0, r0⟩ := trodAll_cons hA
  obtain ⟨v1, vs1, d1, ds1, p1, q1, rfl, rfl, rfl, h1, r1⟩ := trodAll_cons r0
  obtain ⟨rfl, rfl, rfl⟩ := trodAll_nil r1
  obtain rfl : args = #[v0, v1] := by cases args; simp_all
  obtain ⟨rfl, rfl⟩ := trodVars_none hV
  have k0 := h0
  have lt0 : ∀ x ∈ p0, x.block < W.heap.size := by obtain ⟨m, hm⟩ := k0; exact DataW.trod_lt m _ _ _ hm
  obtain ⟨x0, o0, rfl, f0, hb0⟩ := deed_in (hval 0 35 v0 rfl rfl) h0
  obtain ⟨a1, len1, cap1, rfl⟩ := okWide_slice Try.underlying24 (hval 1 24 v1 rfl rfl)
  have k1 := h1
  have lt1 : ∀ x ∈ p1, x.block < W.heap.size := by obtain ⟨m, hm⟩ := k1; exact DataW.trod_lt m _ _ _ hm
  obtain ⟨l1, len_1, hb1⟩ : ∃ l : List Int, l.length = len1 ∧ Lv iK W W.heap.size (.slice a1 len1 cap1) l := by
    obtain ⟨fuel, hf⟩ := h1
    rcases open_ints Try.underlying24 Try.underlying3 (by kernel_rfl) hf with ⟨hcs, _⟩ | ⟨x, l, c, zs, hcs, _, hl, hm, hz, _, hcell, hwz⟩
    · simp [Value.cells] at hcs
      obtain ⟨rfl, rfl, rfl⟩ := hcs
      exact ints_in (.inl ⟨rfl, rfl, rfl⟩)
    · simp [Value.cells] at hcs
      obtain ⟨rfl, rfl, rfl⟩ := hcs
      exact ints_in (.inr ⟨x, zs, rfl, hl, hm, by simpa using hz, hcell, hwz⟩)
  clear hA0 hval0
  refine (walk W x0 o0 f0 hb0 (.slice a1 len1 cap1) l1 hb1).mono fun e W' ⟨he, bel⟩ => ?_
  subst he
  exact ⟨_, rfl, _, _, _, [], _, [], hW', trodAll_mk1 (shut_bool Try.underlying4 _), (trodAll_cons_mk (Below.trod laidOut (by kernel_rfl) (of_decide_eq_true (by kernel_rfl)) k0 bel lt0) (trodAll_cons_mk (Below.trod laidOut (by kernel_rfl) (of_decide_eq_true (by kernel_rfl)) k1 bel lt1) trodAll_mk0)), rfl, bel.frame _, fun h => by cases h⟩

theorem proved : Rows.SimfsNilSaid :=
  OpenClaim.holds_of_wide 5 Try.f5 rfl rfl rfl rfl rfl rfl rfl ⟨rfl, rfl, rfl, rfl, rfl⟩ rfl rfl rfl rfl rfl (by kernel_rfl) Try.func5 (by kernel_rfl)
    (of_decide_eq_true (by kernel_rfl)) (by unfold Func.isWrapper; first | (rw [if_pos (by decide +kernel)]; kernel_rfl) | (rw [if_neg (by decide +kernel)]; exact ⟨rfl, rfl⟩))
    (fun os started H enc _ => lifted os started H enc)

end Go.Proofs.Ytmcbjcbnckpfkaa.simfsNil
