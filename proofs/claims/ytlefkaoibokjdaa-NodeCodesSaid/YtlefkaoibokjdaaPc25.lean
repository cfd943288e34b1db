/-
  NodL: stooklaw18.lives.
  NodN: What the reference reads of a node's bytes: the first error ends it (mathematics).
  RGetRow: stookref01.GetRow answers a counted row, in new memory.
-/
import Derived.Test.YtlefkaoibokjdaaPc24
import Derived.Test.YtlefkaoibokjdaaPc23
import Derived.Test.YtlefkaoibokjdaaPc19
import Derived.Test.YtlefkaoibokjdaaPc13
import Derived.Test.YtlefkaoibokjdaaPc03
import Derived.Test.YtlefkaoibokjdaaPc16
namespace Go.Proofs.Ytlefkaoibokjdaa
open Go.RowKit
set_option linter.unusedVariables false
/-- The leaf of two keys. -/
def Nd.ex : Nd.Node := ⟨1, [⟨#[98]⟩, ⟨#[100]⟩], [⟨#[49]⟩, ⟨#[50]⟩], []⟩
def Nd.exB : List Nat := [2, 1, 98, 1, 49, 1, 100, 1, 50]
theorem Nd.ex_put : Nd.putE Nd.ex = (Nd.exB, 0) := by decide +kernel
theorem Nd.ex_get : Nd.getE 1 Nd.exB = (Nd.ex, 0) := by decide +kernel
theorem Nd.ex_find : Nd.below Nd.ex.keys ⟨#[99]⟩ = 1 ∧ Nd.isAt Nd.ex.keys ⟨#[99]⟩ = false := by decide +kernel
theorem ndL_built (n m : Nat) (x : Int) : Try.prog.built 26 [(0, .int .u8 x), (1, .slice (some ⟨n, 0, none⟩) 2 2), (2, .slice (some ⟨m, 0, none⟩) 2 2)] = some #[.int .u8 x, .slice (some ⟨n, 0, none⟩) 2 2, .slice (some ⟨m, 0, none⟩) 2 2, .slice none 0 0] := by kernel_rfl
set_option maxHeartbeats 4000000 in
set_option maxRecDepth 100000 in
theorem lives_nd (w : World) : Calls Try.prog 21 #[] w (IsBool true w) := by
  have hz := (zero_of_info nd_zero).1
  have hok : ∀ x ∈ Nd.ex.keys ++ Nd.ex.vals, sK.ok x := by
    intro x hx
    show x.size ≤ maxLen
    have : ∀ x ∈ Nd.ex.keys ++ Nd.ex.vals, x.size = 1 := by decide +kernel
    rw [this x hx]; simp [maxLen]
  obtain ⟨W1, hW1⟩ : ∃ W, w.alloc (.cells #[.string ⟨#[98]⟩, .string ⟨#[100]⟩] 9) = W := ⟨_, rfl⟩
  have s1 : W1.heap.size = w.heap.size + 1 := by rw [← hW1]; simp
  have k1 : Lv sK W1 W1.heap.size (.slice (some ⟨w.heap.size, 0, none⟩) 2 2) Nd.ex.keys := by
    have := Lv.build_ sK w Nd.ex.keys (fun x hx => hok x (List.mem_append_left _ hx)) (by decide) 2 rfl #[.string ⟨#[98]⟩, .string ⟨#[100]⟩] rfl 9 rfl
    rw [hW1] at this
    exact this.mono_ (by omega)
  obtain ⟨W2, hW2⟩ : ∃ W, W1.alloc (.cells #[.string ⟨#[49]⟩, .string ⟨#[50]⟩] 9) = W := ⟨_, rfl⟩
  have s2 : W2.heap.size = W1.heap.size + 1 := by rw [← hW2]; simp
  have k2 : Lv sK W2 W2.heap.size (.slice (some ⟨W1.heap.size, 0, none⟩) 2 2) Nd.ex.vals := by
    have := Lv.build_ sK W1 Nd.ex.vals (fun x hx => hok x (List.mem_append_right _ hx)) (by decide) 2 rfl #[.string ⟨#[49]⟩, .string ⟨#[50]⟩] rfl 9 rfl
    rw [hW2] at this
    exact this.mono_ (by omega)
  have b1 : Below w.heap.size w W1 := by rw [← hW1]; exact (Below.refl _ _).alloc (Nat.le_refl _) _
  have b2 : Below W1.heap.size W1 W2 := by rw [← hW2]; exact (Below.refl _ _).alloc (Nat.le_refl _) _
  rw [s1] at k2
  obtain ⟨C, hC⟩ : ∃ C : Array Value, #[.int .u8 1, .slice (some ⟨w.heap.size, 0, none⟩) 2 2, .slice (some ⟨w.heap.size + 1, 0, none⟩) 2 2, .slice none 0 0] = C := ⟨_, rfl⟩
  have HN2 : Hid (NdIs W2 W2.heap.size (.agg C) Nd.ex) := ⟨some ⟨w.heap.size, 0, none⟩, 2, some ⟨w.heap.size + 1, 0, none⟩, 2, none, 0, by rw [← hC]; rfl, by decide, (k1.below_ b2 (Nat.le_refl _)).mono_ (by omega), k2, Lv.nil_ _ _ _⟩
  have HSC : Hid ((Try.prog.info? 26).map (·.size) = some C.size) := by unfold Hid; rw [← hC]; kernel_rfl
  have HOC : Hid (C.all (·.oneCell') = true) := by unfold Hid; rw [← hC]; simp [Value.oneCell']
  have hbt : Try.prog.built 26 [(0, .int .u8 1), (1, .slice (some ⟨w.heap.size, 0, none⟩) 2 2), (2, .slice (some ⟨w.heap.size + 1, 0, none⟩) 2 2)] = some C := by rw [← hC]; exact ndL_built _ _ _
  have HZC : Hid (ndZ.size = C.size) := by unfold Hid; rw [← hC]; rfl
  obtain ⟨Z, hZ⟩ : ∃ Z, ndZ = Z := ⟨_, rfl⟩
  rw [hZ] at hz HZC
  obtain ⟨X, hX⟩ : ∃ X, (W2.alloc (.cells Z 26)).setRow W2.heap.size C = X := ⟨_, rfl⟩
  have HRX : Hid (Rw X W2.heap.size 26 C) := by unfold Hid; rw [← hX]; exact (Rw.new W2 _ _).row C
  have hb2X : Below W2.heap.size W2 X := by rw [← hX]; exact below_setRow ((Below.refl _ _).alloc (Nat.le_refl _) _) (Nat.le_refl _) _
  have HBX : Hid (Below w.heap.size w X) := (b1.trans (b2.mono (by omega))).trans (hb2X.mono (by omega))
  have HNX := Lib.hid (HN2.out.below_ hb2X (Nat.le_refl _))
  have HLX : Hid (W2.heap.size < X.heap.size) := HRX.out.lt
  have CP := Lib.hid (pnput_any Nd.ex _ _ X HNX.out (Nat.le_of_lt HLX.out))
  rw [Nd.ex_put] at CP
  have HW2 : Hid (w.heap.size ≤ W2.heap.size) := by unfold Hid; omega
  clear hok k1 k2 b1 b2 hC HN2 hb2X hZ s2
  have hs1 := s1
  clear s1
  go_enter Try.func21, Try.ntmps21
  go_wp2_with (first
    | ((with_reducible refine gate_build 26 ?_); refine wpList_build_atT rfl _ _ rfl C ?hf ?_; (case hf => first | exact hbt | (rw [← hbt]; congr 1; kernel_rfl) | (rw [← hbt]; kernel_rfl) | (rw [← hbt]; rfl)))
    | (refine wpList_store_row rfl _ _ _ rfl W2.heap.size C rfl rfl 26 Z (Rw.new W2 _ _) HSC.out HZC.out HOC.out ?_; rw [hX])
    | (refine wpList_load_row rfl _ _ rfl W2.heap.size rfl 26 C (0, 0) _ HRX.out Try.underlying26 rfl HSC.out ?_))
  refine CP.out.mono ?_
  rintro e w1 ⟨A1, c1, rfl, o1, b1⟩
  have HB1 := Lib.hid (HBX.out.trans (b1.mono HBX.out.size))
  have HR1 := Lib.hid (HRX.out.below b1 HLX.out)
  have HN1 := Lib.hid (HNX.out.below_ b1 (Nat.le_of_lt HLX.out))
  have HLN : Hid (Nd.exB.length = 9) := rfl
  have CG := Lib.hid (pnget_any 1 (by decide) _ Nd.exB _ w1 o1.form_ (Nat.le_refl _) (by rw [HLN.out]; decide))
  rw [Nd.ex_get] at CG
  have HL1 : Hid (W2.heap.size < w1.heap.size) := HR1.out.lt
  simp only at CG ⊢
  rw [HLN.out] at CG ⊢
  clear CP b1 o1
  go_wp2_with fail
  refine CG.out.mono ?_
  rintro e w3 ⟨v3, rfl, n3, b3⟩
  obtain ⟨Ak, ck, Av, cv, Ai, ci, rfl, hk8, hl1, hl2, hl3⟩ := n3
  obtain ⟨D, hD⟩ : ∃ D : Array Value, #[.int .u8 (Nd.ex.kind : Nat), .slice Ak Nd.ex.keys.length ck, .slice Av Nd.ex.vals.length cv, .slice Ai Nd.ex.kids.length ci] = D := ⟨_, rfl⟩
  have HSD : Hid ((Try.prog.info? 26).map (·.size) = some D.size) := by unfold Hid; rw [← hD]; kernel_rfl
  have HOD : Hid (D.all (·.oneCell') = true) := by unfold Hid; rw [← hD]; simp [Value.oneCell']
  have HZD : Hid (Z.size = D.size) := by unfold Hid; rw [HZC.out]; have h1 := HSC.out; have h2 := HSD.out; rw [h1] at h2; exact Option.some.inj h2
  obtain ⟨Y, hY⟩ : ∃ X, (w3.alloc (.cells Z 26)).setRow w3.heap.size D = X := ⟨_, rfl⟩
  have hbY : Below w3.heap.size w3 Y := by rw [← hY]; exact below_setRow ((Below.refl _ _).alloc (Nat.le_refl _) _) (Nat.le_refl _) _
  have HRY : Hid (Rw Y w3.heap.size 26 D) := by unfold Hid; rw [← hY]; exact (Rw.new w3 _ _).row D
  have HBY : Hid (Below w.heap.size w Y) := (HB1.out.trans (b3.mono HB1.out.size)).trans (hbY.mono (HB1.out.trans (b3.mono HB1.out.size)).size)
  have HRC : Hid (Rw Y W2.heap.size 26 C) := (HR1.out.below b3 HL1.out).below hbY (by have := HL1.out; have := b3.size; omega)
  have HNC : Hid (NdIs Y W2.heap.size (.agg C) Nd.ex) := (HN1.out.below_ b3 (Nat.le_of_lt HL1.out)).below_ hbY (by have := HL1.out; have := b3.size; omega)
  have HND : Hid (NdIs Y w3.heap.size (.agg D) Nd.ex) := ⟨Ak, ck, Av, cv, Ai, ci, by rw [← hD]; rfl, hk8, hl1.below_ hbY (Nat.le_refl _), hl2.below_ hbY (Nat.le_refl _), hl3.below_ hbY (Nat.le_refl _)⟩
  have HL3 : Hid (W2.heap.size ≤ w3.heap.size ∧ w3.heap.size < Y.heap.size) := ⟨by have := HL1.out; have := b3.size; omega, HRY.out.lt⟩
  have CF := Lib.hid (pnfind_any Nd.ex ⟨#[99]⟩ _ _ Y HNC.out (by have := HL3.out; omega))
  rw [Nd.ex_find.1, Nd.ex_find.2] at CF
  unfold ndV
  rw [hD]
  clear CG b3 hl1 hl2 hl3 hk8 hbY hD HN1
  go_wp2_with (first
    | (refine wpList_store_row rfl _ _ _ rfl w3.heap.size D rfl rfl 26 Z (Rw.new w3 _ _) HSD.out HZD.out HOD.out ?_; rw [hY])
    | (refine wpList_load_row rfl _ _ rfl W2.heap.size rfl 26 C (0, 0) _ HRC.out Try.underlying26 rfl HSC.out ?_))
  refine CF.out.mono ?_
  rintro e w4 ⟨rfl, b4⟩
  have HB4 := Lib.hid (HBY.out.trans (b4.mono HBY.out.size))
  have HRC4 := Lib.hid (HRC.out.below b4 (by have := HL3.out; omega))
  have HRD4 := Lib.hid (HRY.out.below b4 HL3.out.2)
  have CS := Lib.hid (rsame_any Nd.ex Nd.ex (.agg D) (.agg C) w3.heap.size w4 (HND.out.below_ b4 (Nat.le_of_lt HL3.out.2)) ((HNC.out.below_ b4 (by have := HL3.out; omega)).mono_ HL3.out.1) (by have := HL3.out; have := b4.size; omega))
  rw [decide_eq_true rfl] at CS
  clear CF b4
  go_wp2_with (first
    | (refine wpList_load_row_onT (by rfl) _ _ rfl w3.heap.size rfl 26 D (0, 0) _ HRD4.out Try.underlying26 rfl HSD.out ?_)
    | (refine wpList_load_row_onT (by rfl) _ _ rfl W2.heap.size rfl 26 C (0, 0) _ HRC4.out Try.underlying26 rfl HSC.out ?_))
  refine CS.out.mono ?_
  rintro e w5 ⟨rfl, b5⟩
  have HB5 := Lib.hid (HB4.out.trans (b5.mono HB4.out.size))
  clear CS b5
  go_wp2
  go_ret
  exact ⟨rfl, HB5.out⟩
end Go.Proofs.Ytlefkaoibokjdaa
namespace Go.Proofs.Ytlefkaoibokjdaa
namespace Nd
set_option linter.unusedVariables false
theorem get_bad {l : List Nat} {a : Int} (h : (Mt.get l a).2.2 ≠ 0) : Mt.get l a = (0, 0, (Mt.get l a).2.2) := by
  unfold Mt.get at *
  split
  · rfl
  · rename_i h1
    rw [if_neg h1] at h
    split
    · rename_i h2; rw [if_pos h2] at h; exact absurd rfl h
    · rfl
theorem num_ok {l : List Nat} {a most : Nat} (h : (Mt.count l a most).2.2 = 0) : numE l (a, 0) most = Mt.count l a most := by
  unfold Mt.count at *
  unfold numE
  rw [if_neg (by simp)]
  split at h
  · rename_i h1; exact absurd h h1
  · rename_i h1
    split at h
    · cases h
    · rename_i h2
      rw [if_neg h1, if_neg h2, if_neg (by simp only; omega)]
theorem num_bad {l : List Nat} {a most : Nat} (h : (Mt.count l a most).2.2 ≠ 0) : (numE l (a, 0) most).2.2 = (Mt.count l a most).2.2 := by
  have hb : (Mt.get l (a : Int)).2.2 ≠ 0 → _ := get_bad
  obtain ⟨⟨x, p, e⟩, hx⟩ : ∃ r, Mt.get l (a : Int) = r := ⟨_, rfl⟩
  have e1 : numE l (a, 0) most = if most < x then (0, p, 3) else (x, p, e) := by
    unfold numE
    rw [if_neg (by simp)]
    show (if most < (Mt.get l (a : Int)).1 then (0, (Mt.get l (a : Int)).2.1, 3) else Mt.get l (a : Int)) = _
    rw [hx]
  have e2 : Mt.count l a most = if e ≠ 0 then (0, 0, e) else if (most : Int) < 0 ∨ (most : Int) < (x : Nat) then (0, 0, 3) else (x, p, e) := by
    unfold Mt.count
    rw [hx]
  rw [hx] at hb
  rw [e2] at h ⊢
  rw [e1]
  by_cases h1 : e = 0
  · subst h1
    rw [if_neg (show ¬ (0 ≠ 0) by simp)] at h ⊢
    by_cases h2 : most < x
    · rw [if_pos h2, if_pos (by omega)]
    · rw [if_neg (by omega)] at h; exact absurd rfl h
  · rw [if_pos h1]
    have e3 := hb h1
    injection e3 with e3 _
    subst e3
    rw [if_neg (by omega)]
theorem row_ok {l : List Nat} {a most : Nat} : rowE l (a, 0) most = Mt.getRow l a most := by
  unfold rowE
  rw [if_neg (by simp)]
theorem num_stuck {l : List Nat} {s : Nat × Nat} {most : Nat} (h : s.2 ≠ 0) : numE l s most = (0, s) := if_pos h
theorem row_stuck {l : List Nat} {s : Nat × Nat} {most : Nat} (h : s.2 ≠ 0) : rowE l s most = ([], s) := if_pos h
theorem step_stuck {l : List Nat} {x : Node × Nat × Nat} (h : x.2.2 ≠ 0) : (stepE l x).2 = x.2 := by
  have h1 : rowE l x.2 40 = ([], x.2) := row_stuck h
  unfold stepE
  split
  · rw [h1, num_stuck h]
  · rw [h1, row_stuck h]
theorem loop_stuck {l : List Nat} {x : Node × Nat × Nat} {j : Nat} (h : (loopE l x j).2.2 ≠ 0) : ∀ k, (loopE l x (j + k)).2 = (loopE l x j).2
  | 0 => rfl
  | k + 1 => by
    have ih := loop_stuck h k
    show (stepE l (loopE l x (j + k))).2 = _
    rw [step_stuck (by rw [ih]; exact h), ih]
/-- An error on the way is the error. -/
theorem loop_err {l : List Nat} {x : Node × Nat × Nat} {j n : Nat} (hj : j ≤ n) (h : (loopE l x j).2.2 ≠ 0) : (loopE l x n).2.2 = (loopE l x j).2.2 := by
  obtain ⟨k, rfl⟩ := Nat.exists_eq_add_of_le hj
  rw [loop_stuck h k]
theorem count_at {l : List Nat} (hl : ∀ x ∈ l, x < 256) {a most : Int} (h : (Mt.count l a most).2.2 = 0) : (Mt.count l a most).2.1 ≤ l.length ∧ ((Mt.count l a most).1 : Int) ≤ most := by
  rcases Mt.count_cases hl a most with ⟨e, h1, _, h2⟩ | ⟨k, n, r, _, _, _, _, h3, h4, h5⟩
  · rw [h2] at h; simp only at h; omega
  · rw [h4]
    refine ⟨h3, ?_⟩
    omega
theorem row_at {l : List Nat} (hl : ∀ x ∈ l, x < 256) {a most : Int} (h : (Mt.getRow l a most).2.2 = 0) : (Mt.getRow l a most).2.1 ≤ l.length ∧ ((Mt.getRow l a most).1.length : Int) ≤ most := by
  unfold Mt.getRow at *
  split at h
  · rename_i h1; exact absurd h h1
  · rename_i h1
    have h1' : (Mt.count l a most).2.2 = 0 := by omega
    have hc := count_at hl h1'
    split at h
    · cases h
    · rename_i h2
      rw [if_neg h1, if_neg h2]
      refine ⟨by simp only; omega, ?_⟩
      simp only [List.length_take, List.length_drop]
      omega
/-- One round of a leaf: both rows are there. -/
theorem step_leaf {l : List Nat} {n : Node} {a : Nat} (hk : n.kind ≠ 2) (h1 : (Mt.getRow l a 40).2.2 = 0) :
    stepE l (n, a, 0) = (⟨n.kind, n.keys ++ [bstr (Mt.getRow l a 40).1], n.vals ++ [bstr (Mt.getRow l (Mt.getRow l a 40).2.1 40).1], n.kids⟩, (Mt.getRow l (Mt.getRow l a 40).2.1 40).2) := by
  have e1 : rowE l (a, 0) 40 = Mt.getRow l a 40 := row_ok (most := 40)
  have e2 : rowE l (Mt.getRow l a 40).2 40 = Mt.getRow l (Mt.getRow l a 40).2.1 40 := by
    obtain ⟨⟨b, p, e⟩, hx⟩ : ∃ x, Mt.getRow l a 40 = x := ⟨_, rfl⟩
    rw [hx] at h1 ⊢
    simp only at h1
    subst h1
    exact row_ok (most := 40)
  unfold stepE
  rw [if_neg hk]
  simp only [e1, e2]
theorem step_err {l : List Nat} {n : Node} {a : Nat} (h1 : (Mt.getRow l a 40).2.2 ≠ 0) : (stepE l (n, a, 0)).2.2 = (Mt.getRow l a 40).2.2 := by
  have e1 : rowE l (a, 0) 40 = Mt.getRow l a 40 := row_ok (most := 40)
  unfold stepE
  split
  · simp only [e1]
    rw [num_stuck h1]
  · simp only [e1]
    rw [row_stuck h1]
/-- One round of an inner node. -/
theorem step_inner {l : List Nat} {n : Node} {a : Nat} (hk : n.kind = 2) (h1 : (Mt.getRow l a 40).2.2 = 0) (h2 : (Mt.count l (Mt.getRow l a 40).2.1 65535).2.2 = 0) :
    stepE l (n, a, 0) = (⟨n.kind, n.keys ++ [bstr (Mt.getRow l a 40).1], n.vals, n.kids ++ [((Mt.count l (Mt.getRow l a 40).2.1 65535).1 : Int)]⟩, (Mt.count l (Mt.getRow l a 40).2.1 65535).2) := by
  have e1 : rowE l (a, 0) 40 = Mt.getRow l a 40 := row_ok (most := 40)
  have e2 : numE l (Mt.getRow l a 40).2 65535 = Mt.count l (Mt.getRow l a 40).2.1 65535 := by
    obtain ⟨⟨b, p, e⟩, hx⟩ : ∃ x, Mt.getRow l a 40 = x := ⟨_, rfl⟩
    rw [hx] at h1 h2 ⊢
    simp only at h1
    subst h1
    exact num_ok (most := 65535) h2
  unfold stepE
  rw [if_pos hk]
  simp only [e1, e2]
theorem step_innerErr {l : List Nat} {n : Node} {a : Nat} (hk : n.kind = 2) (h1 : (Mt.getRow l a 40).2.2 = 0) (h2 : (Mt.count l (Mt.getRow l a 40).2.1 65535).2.2 ≠ 0) : (stepE l (n, a, 0)).2.2 = (Mt.count l (Mt.getRow l a 40).2.1 65535).2.2 := by
  have e1 : rowE l (a, 0) 40 = Mt.getRow l a 40 := row_ok (most := 40)
  have e2 : (numE l (Mt.getRow l a 40).2 65535).2.2 = (Mt.count l (Mt.getRow l a 40).2.1 65535).2.2 := by
    obtain ⟨⟨b, p, e⟩, hx⟩ : ∃ x, Mt.getRow l a 40 = x := ⟨_, rfl⟩
    rw [hx] at h1 h2 ⊢
    simp only at h1
    subst h1
    exact num_bad (most := 65535) h2
  unfold stepE
  rw [if_pos hk]
  simp only [e1, e2]
end Nd
end Go.Proofs.Ytlefkaoibokjdaa
namespace Go.Proofs.Ytlefkaoibokjdaa
open Go.RowKit
set_option linter.unusedVariables false

set_option maxHeartbeats 2000000 in
set_option maxRecDepth 100000 in
theorem rgetRow_any (v : Value) (l : List Nat) (B : Nat) (a most : Int) (w : World) (hB : B ≤ w.heap.size) (h : Bv w B v l) (hm : most ≤ 9223372036854775807) (hsz : l.length ≤ 140737488355328) :
    Calls Try.prog 46 #[v, .int .i64 a, .int .i64 most] w (IsRowN (Mt.getRow l a most) w) := by
  have HC := Lib.hid (rcount_any v l B a most w h hm)
  clear hm
  have H0 := Lib.hid h
  rcases Mt.count_cases h.lt_ a most with ⟨e, he2, he5, hr⟩ | ⟨k, n, r, rfl, hk, hb, hs, hle, hr, hmm⟩
  · have HR := Lib.hid hr
    have HX := Lib.hid (Mt.getRow_err hr (by omega))
    have hq : (((e : Nat) : Int) != 0) = true := by rw [bne_iff_ne]; omega
    clear hr
    go_enter Try.func46, Try.ntmps46
    go_wp2_with fail
    ((with_reducible refine HC.out.mono ?_); rintro e' w2 ⟨he, hb2⟩)
    rw [HR.out] at he
    subst he
    clear HC
    go_wp2
    go_ret3
    exact IsRowN.none_ HX.out hb2
  · obtain ⟨x, hx⟩ : ∃ x, k + (Mt.put n).length = x := ⟨_, rfl⟩
    rw [hx] at hr hle
    have HR := Lib.hid hr
    obtain ⟨A, c, rfl, hc1, hc2, hc3, h4⟩ := id h
    obtain ⟨b, off, rfl, _⟩ := h4.2 (by omega)
    unfold maxLen at hc2
    clear h4 hc3 hs hb hx h hmm
    by_cases hsh : l.length - x < n
    · have HX := Lib.hid (Mt.getRow_short hr hsh)
      have hsh' : ((l.length : Nat) : Int) - (x : Int) < (n : Int) := by omega
      clear hr
      go_enter Try.func46, Try.ntmps46
      go_wp2_with fail
      ((with_reducible refine HC.out.mono ?_); rintro e' w2 ⟨he, hb2⟩)
      rw [HR.out] at he
      subst he
      clear HC
      go_wp2
      go_ret3
      exact IsRowN.none_ HX.out hb2
    · have hX := Mt.getRow_ok hr hsh
      have hn : x + n ≤ l.length := by omega
      have hsh' : (n : Int) ≤ ((l.length : Nat) : Int) - (x : Int) := by omega
      have hlen : ((l.drop x).take n).length = n := by rw [List.length_take, List.length_drop]; omega
      obtain ⟨y, hy⟩ : ∃ y, (l.drop x).take n = y := ⟨_, rfl⟩
      rw [hy] at hX hlen
      have HX := Lib.hid hX
      have HL := Lib.hid hlen
      have HY := Lib.hid hy
      have hyl : y.length ≤ 140737488355328 := by omega
      clear hr hsh hX hlen hy
      by_cases hcap : c = x
      · subst hcap
        have hn0 : n = 0 := by omega
        subst hn0
        obtain rfl : y = [] := List.eq_nil_of_length_eq_zero HL.out
        go_enter Try.func46, Try.ntmps46
        go_wp2_with fail
        ((with_reducible refine HC.out.mono ?_); rintro e' w2 ⟨he, hb2⟩)
        rw [HR.out] at he
        subst he
        have HB := Lib.hid hb2
        have hz := hb2.size
        have HP := Lib.hid (Bv.empty_ w2 w2.heap.size ⟨b, off, none⟩)
        have hnil := Lib.hid (OwnB.nil_ w2 w.heap.size)
        clear HC hb2
        go_wp2_with (at_builtin; go_must (refine wpList_append_bytes _ rfl _ _ rfl rfl w.heap.size _ rfl [] hnil.out _ rfl _ [] HP.out (by simp) hz ?_; intro A3 c3 w3 hA))
        go_ret3
        have hO := hA.own
        have hB2 := HB.out.grown hA.grown hz (by intro k hk; cases hk)
        exact IsRowN.of HX.out hO hB2
      · have hp := H0.out.piece_ hn hcap
        rw [HY.out] at hp
        have HP := Lib.hid hp
        clear hp
        go_enter Try.func46, Try.ntmps46
        go_wp2_with fail
        ((with_reducible refine HC.out.mono ?_); rintro e' w2 ⟨he, hb2⟩)
        rw [HR.out] at he
        subst he
        have HB := Lib.hid hb2
        have hz := hb2.size
        have hq := HP.out.below_ hb2 hB
        rw [show n = x + n - x by omega] at hq
        have HP2 := Lib.hid hq
        clear hq
        have hnil := Lib.hid (OwnB.nil_ w2 w.heap.size)
        clear HC hb2
        go_wp2_with (at_builtin; go_must (refine wpList_append_bytes _ rfl _ _ rfl rfl w.heap.size _ rfl [] hnil.out _ rfl _ y HP2.out (by simp; omega) hz ?_; intro A3 c3 w3 hA))
        go_ret3
        have hO := hA.own
        have hB2 := HB.out.grown hA.grown hz (by intro k hk; cases hk)
        exact IsRowN.of HX.out hO hB2
end Go.Proofs.Ytlefkaoibokjdaa
