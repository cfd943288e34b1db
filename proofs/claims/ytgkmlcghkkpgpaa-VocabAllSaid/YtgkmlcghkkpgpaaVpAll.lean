/-
  What All goes over, and what a call of it answers: an iterator's function whose memory is new.
  vocab.All: an iterator over the tokens of a vocabulary that lies in a captured variable.
  slices.Clone of pieces; vocab.All.
-/
import Derived.Test.YtgkmlcghkkpgpaaVoOver
import Derived.Test.YtgkmlcghkkpgpaaVpExp
namespace Go.Proofs.Ytgkmlcghkkpgpaa
open Go.RowKit
set_option linter.unusedVariables false

/-- What All goes over: the bytes of all tokens; nothing, of a vocabulary that may not be. -/
def Vo.allOf (P : List Vo.Pc) : List (List Nat) := if Vo.May P then Vo.texts P else []
/-- A call that answers a function that goes over these rows, whatever becomes of all but the memory that the call has made. -/
def IsSeq (T : List (List Nat)) (w : World) (e : Ending) (w' : World) : Prop :=
  ∃ gf lb, e = .returned (.func (.func gf) #[] lb) ∧ (∀ args w, (callFunc gf args).run Try.prog w = .ok (.enter gf args) w) ∧ Below w.heap.size w w' ∧
    ∀ W, w'.heap.size ≤ W.heap.size → (∀ k, w.heap.size ≤ k → k < w'.heap.size → W.heap[k]? = w'.heap[k]?) → Yields Fence.wide 8 Try.prog gf lb W.heap.size T.length (rowG T W.heap.size) W
end Go.Proofs.Ytgkmlcghkkpgpaa
namespace Go.Proofs.Ytgkmlcghkkpgpaa
open Go.RowKit Go.Shelf
set_option linter.unusedVariables false
attribute [local go_sem] Oper.semAt_some

theorem yield_not_nil (l : Nat) (w : World) : (binOp .eql 75 (.func (.yield l) #[] #[]) .nilFunc).run Try.prog w = .ok (.bool false) w := by
  kernel_rfl

set_option maxRecDepth 100000 in
set_option maxHeartbeats 4000000 in
theorem pseq_tokens (P : List Vo.Pc) (hg : Vo.Good P) (hP : P.length ≤ 4096) (bx : Nat) (v : Value) (w0 : World) (hv : Lv pK w0 w0.heap.size v P) (hbx : Bx w0 bx v 22) :
    Yields Fence.wide 8 Try.prog 51 #[.pointer (some ⟨bx, 0, none⟩)] w0.heap.size P.length (rowG (Vo.texts P) w0.heap.size) w0 := by
  intro l J Jx W hb hJ hJx hY h0
  obtain ⟨A, c, rfl, _, _, _, _⟩ := id hv
  obtain ⟨N, hN⟩ : ∃ N, P.length = N := ⟨_, rfl⟩
  have HN := Lib.hid hN
  rw [hN] at hY hP hv hbx ⊢
  have HV := Lib.hid hv
  have HB := Lib.hid hb
  have HBX := Lib.hid hbx
  have q0 := (hbx.below_ hb hbx.lt_).cell_
  have hyn := yield_not_nil l
  clear hv hb hbx hN
  refine callsIn_of_wp Try.func51 rfl trivial ?_ rfl
  simp only [Try.ntmps51, List.size_toArray, List.length_cons, List.length_nil, Nat.reduceAdd, Nat.reduceSub, Array.replicate_succ, Array.replicate_zero, List.push_toArray, List.append_toArray, List.nil_append, List.cons_append]
  gi_wp2
  clear q0 hyn
  gi_loopw [3, 8] (fun _ i wr => ∃ k : Nat, k ≤ N ∧ i = .int .i64 k ∧ Hid (J k wr) ∧ Below w0.heap.size w0 wr) (fun _ i _ => N - (intOf i).toNat)
  case atStart => exact ⟨0, Nat.zero_le _, rfl, h0, HB.out⟩
  case round =>
    obtain ⟨k, hk, rfl, HJ, hbr⟩ := hrel
    have HBR := Lib.hid hbr
    have q1 := (HBX.out.below_ hbr HBX.out.lt_).cell_
    clear hbr
    by_cases hlt : k < N
    · have g1 : (k : Int) < (N : Int) := by omega
      have HC := Lib.hid (pexp_any P hg _ w0.heap.size k wr (by have := HN.out; omega) (by have := HV.out.below_ HBR.out (Nat.le_refl _); exact this) HBR.out.size)
      have hwk : IntKind.i64.wrap ((k : Int) + 1) = (k : Int) + 1 := by rw [IntKind.wrap_i64]; omega
      gi_wp2
      refine ⟨trivial, (callsIn_wide.2 HC.out).mono ?_⟩
      rintro e w2 ⟨A2, c2, rfl, ho2, hb2⟩
      have hJ2 := hJ k wr w2 HJ.out hb2
      have hG : rowG (Vo.texts P) w0.heap.size k #[.int .i64 (k : Nat), .slice A2 (Vo.text P k).length c2] w2 := ⟨A2, c2, Vo.text P k, Vo.texts_get (by have := HN.out; omega), rfl, ho2.mono_ HBR.out.size⟩
      obtain ⟨fn, tmps, assign, body, hy, hR⟩ := hY k _ w2 hlt hG hJ2
      obtain ⟨tl, htl⟩ : ∃ tl, (Vo.text P k).length = tl := ⟨_, rfl⟩
      rw [htl] at hy ⊢
      have HR := Lib.hid hR
      have HB2 : Hid (Below w0.heap.size w0 w2) := HBR.out.trans (hb2.mono HBR.out.size)
      clear htl hR hG hJ2 ho2 hb2 HC
      gi_wp2
      refine (HR.out).mono ?_
      rintro e w3 (⟨rfl, hJ3, hb3⟩ | ⟨rfl, hJ3⟩)
      · have HJ3 := Lib.hid hJ3
        have HB3 : Hid (Below w0.heap.size w0 w3) := HB2.out.trans hb3
        have HLT := Lib.hid hlt
        clear hJ3 hb3 HB2 HBR
        gi_wp2
        go_roundw
        case rel => exact ⟨k + 1, by have := HLT.out; omega, by go_num, HJ3.out, HB3.out⟩
        case measure => have := HLT.out; simp [intOf]; omega
      · have HJ3 := Lib.hid hJ3
        clear hJ3
        gi_wp2
        refine bodyPost_ret (results_none rfl _ _ _) rfl ?_
        exact ⟨⟨_, rfl⟩, .inr HJ3.out⟩
    · have g1 : ¬ (k : Int) < (N : Int) := by omega
      obtain rfl : k = N := by omega
      gi_wp2
      go_end0
      exact ⟨⟨_, rfl⟩, .inl HJ.out⟩
end Go.Proofs.Ytgkmlcghkkpgpaa
namespace Go.Proofs.Ytgkmlcghkkpgpaa
open Go.RowKit
set_option linter.unusedVariables false

theorem nil_nil (w : World) : (binOp .eql 22 (.slice none 0 0) (.slice none 0 0)).run Try.prog w = .ok (.bool true) w := by kernel_rfl
theorem some_nil (ad : Addr) (n c : Nat) (w : World) : (binOp .eql 22 (.slice (some ad) n c) (.slice none 0 0)).run Try.prog w = .ok (.bool false) w := by kernel_rfl
set_option maxHeartbeats 1000000 in
theorem pclone_any (P : List Vo.Pc) (v : Value) (B : Nat) (w : World) (hv : Lv pK w B v P) (hB : B ≤ w.heap.size) (hP : P.length ≤ 4096) :
    Calls Try.prog 50 #[v] w (IsL1 pK P w) := by
  have HV := Lib.hid hv
  obtain ⟨A, c, rfl, h1, h2, h3, _⟩ := hv
  cases A with
  | none =>
    have hc := h3 rfl
    have h0 : P = [] := List.eq_nil_of_length_eq_zero (by omega)
    subst hc h0
    clear h1 h2 h3 HV
    have hen := nil_nil
    go_enter Try.func50, Try.ntmps50
    go_wp2
    go_ret
    exact ⟨none, 0, rfl, OwnL.nil_ _ _ _, Below.refl _ _⟩
  | some ad =>
    clear h1 h2 h3
    obtain ⟨W, hW⟩ : ∃ W, w.alloc (.cells #[] 33) = W := ⟨_, rfl⟩
    have HB : Hid (Below w.heap.size w W) := by unfold Hid; rw [← hW]; exact (Below.refl _ _).alloc (Nat.le_refl _) _
    have HO : Hid (OwnL pK W w.heap.size (.slice (some ⟨w.heap.size, 0, none⟩) 0 0) []) := by
      refine ⟨by simp, .inr ⟨w.heap.size, [], rfl, Nat.le_refl _, by simp, by simp [maxLen], ?_⟩⟩
      rw [← hW]
      exact heap_alloc_new w _
    have HVW := Lib.hid (HV.out.below_ HB.out hB)
    have hbw := HB.out.size
    have hen := some_nil ad P.length c
    go_enter Try.func50, Try.ntmps50
    go_wp2_with (at_builtin; go_must (refine wpList_append_l _ pK rfl _ _ rfl w.heap.size _ rfl [] HO.out _ rfl B P HVW.out (by show (_ + _) * 32 ≤ _; simp only [List.length_nil]; omega) (by simp only [List.length_nil, maxLen]; omega) hbw ?_))
    intro A3 c3 w3 hA hG
    have HA := Lib.hid hA
    have HB3 := Lib.hid (HB.out.grown hG hbw (fun k hk => (HO.out.lt_ k hk).1))
    clear hA hG
    go_wp2
    go_ret
    exact ⟨A3, c3, rfl, HA.out, HB3.out⟩

set_option maxHeartbeats 2000000 in
theorem pall_any (P : List Vo.Pc) (v : Value) (B : Nat) (w : World) (hv : Lv pK w B v P) (hB : B ≤ w.heap.size) (hP : P.length ≤ 700) :
    Calls Try.prog 32 #[.agg #[v]] w (IsSeq (Vo.allOf P) w) := by
  obtain ⟨W, hW⟩ : ∃ W, (w.alloc (.cells #[v] 24)).alloc (.cells #[.slice none 0 0] 22) = W := ⟨_, rfl⟩
  have hs1 : (w.alloc (.cells #[v] 24)).heap.size = w.heap.size + 1 := by simp
  have hsz : W.heap.size = w.heap.size + 1 + 1 := by rw [← hW]; simp
  have b0 : Bx W w.heap.size v 24 := by rw [← hW]; exact (Bx.new_ w _ _).of_old _
  have b1 : Bx W (w.heap.size + 1) (.slice none 0 0) 22 := by
    have h := Bx.new_ (w.alloc (.cells #[v] 24)) (.slice none 0 0) 22
    rwa [hs1, hW] at h
  have hb : Below w.heap.size w W := by rw [← hW]; exact ((Below.refl _ _).alloc (Nat.le_refl _) _).alloc (by simp) _
  have HC := Lib.hid (pmay_any P v B W (hv.below_ hb hB) (Nat.le_trans hB hb.size))
  have HCl : Hid (P.length ≤ 4096 → ∀ w', Below w.heap.size w w' → Calls Try.prog 50 #[v] w' (IsL1 pK P w')) := fun h w' hb => pclone_any P v B w' (hv.below_ hb hB) (Nat.le_trans hB hb.size) h
  have HB := Lib.hid hb
  have HSZ := Lib.hid hsz
  have H0 := Lib.hid b0
  have H1 := Lib.hid b1
  have c0 := b0.cell_
  have eg : ∀ args w, (callFunc 51 args).run Try.prog w = .ok (.enter 51 args) w := enters_of Try.func51 (by kernel_rfl) rfl
  have HEG := Lib.hid eg
  obtain ⟨A, c, rfl, _, _, _, _⟩ := hv
  clear hs1 hsz b0 b1 hb eg
  by_cases hm : Vo.May P
  · rw [decide_eq_true hm] at HC
    have HX : Hid (Vo.allOf P = Vo.texts P) := by unfold Hid Vo.allOf; rw [if_pos hm]
    have HG : Hid (Vo.Good P) := (Vo.may_iff.1 hm).2.1
    have HCl2 := Lib.hid (HCl.out (by omega))
    clear hm HCl
    go_enter Try.func32, Try.ntmps32
    go_wp2_with (fail)
    refine (HC.out).mono ?_
    rintro e w1 ⟨rfl, hb⟩
    have HB1 := Lib.hid (HB.out.trans (hb.mono HB.out.size))
    have d0 : w1.cell? ⟨w.heap.size, 0, none⟩ = some (.slice A P.length c) := (H0.out.below_ hb (by have := HSZ.out; omega)).cell_
    have B1 := Lib.hid (H1.out.below_ hb (by have := HSZ.out; omega))
    have HZ1 : Hid (W.heap.size ≤ w1.heap.size) := hb.size
    have HK := Lib.hid (HCl2.out w1 HB1.out)
    clear hb HC HCl2 c0
    go_wp2_with (fail)
    refine HK.out.mono ?_
    rintro e w2 ⟨A2, c2, rfl, ho, hb⟩
    have B2 := Lib.hid (B1.out.below_ hb (by have := HSZ.out; have := HZ1.out; omega))
    have HB2 := Lib.hid (HB1.out.trans (hb.mono HB1.out.size))
    have b2c := B2.out.cell_
    have b2f := B2.out.cool_
    obtain ⟨w3, hw3⟩ : ∃ w3, w2.setCell ⟨w.heap.size + 1, 0, none⟩ (.slice A2 P.length c2) = w3 := ⟨_, rfl⟩
    have B3 : Hid (Bx w3 (w.heap.size + 1) (.slice A2 P.length c2) 22) := by unfold Hid; rw [← hw3]; exact B2.out.set_ _
    have HO3 : Hid (OwnL pK w3 W.heap.size (.slice A2 P.length c2) P) := by
      unfold Hid; rw [← hw3]
      exact (ho.mono_ HZ1.out).of_block (fun k hk => heap_setCell_other _ _ _ _ (fun e => by have := (ho.lt_ k hk).1; have := HZ1.out; have := HSZ.out; simp at e; omega))
    have HB3 : Hid (Below w.heap.size w w3) := by unfold Hid; rw [← hw3]; exact HB2.out.setCell (p := ⟨w.heap.size + 1, 0, none⟩) (Nat.le_succ _) _
    clear ho hb HK d0
    go_wp2
    go_ret
    rw [HX.out]
    refine ⟨_, _, rfl, HEG.out, HB3.out, fun W' hW' hsame => ?_⟩
    have hbx : Bx W' (w.heap.size + 1) (.slice A2 P.length c2) 22 := (hsame _ (Nat.le_succ _) B3.out.lt_).trans B3.out
    have hlv : Lv pK W' W'.heap.size (.slice A2 P.length c2) P := by
      have h1 : OwnL pK W' W.heap.size (.slice A2 P.length c2) P := HO3.out.of_block (fun k hk => hsame k (by have := (HO3.out.lt_ k hk).1; have := HSZ.out; omega) (HO3.out.lt_ k hk).2)
      exact h1.form_
    have h := pseq_tokens P HG.out (by omega) (w.heap.size + 1) _ W' hlv hbx
    rwa [Vo.texts_len]
  · rw [decide_eq_false hm] at HC
    have HX : Hid (Vo.allOf P = []) := by unfold Hid Vo.allOf; rw [if_neg hm]
    clear hm HCl
    go_enter Try.func32, Try.ntmps32
    go_wp2_with (fail)
    refine (HC.out).mono ?_
    rintro e w1 ⟨rfl, hb⟩
    have HB1 := Lib.hid (HB.out.trans (hb.mono HB.out.size))
    have B1 := Lib.hid (H1.out.below_ hb (by have := HSZ.out; omega))
    clear hb HC c0
    go_wp2
    go_ret
    rw [HX.out]
    refine ⟨_, _, rfl, HEG.out, HB1.out, fun W' hW' hsame => ?_⟩
    have hbx : Bx W' (w.heap.size + 1) (.slice none 0 0) 22 := (hsame _ (Nat.le_succ _) B1.out.lt_).trans B1.out
    exact pseq_tokens [] (fun k p h => by simp at h) (by simp) (w.heap.size + 1) _ W' (Lv.nil_ _ _ _) hbx
end Go.Proofs.Ytgkmlcghkkpgpaa
