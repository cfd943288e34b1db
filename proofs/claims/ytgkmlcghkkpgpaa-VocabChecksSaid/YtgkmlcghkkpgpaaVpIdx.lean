/-
  slices.Index and IndexFunc over pieces; vocab.Byte, Find.
-/
import Derived.Test.YtgkmlcghkkpgpaaVpCheck
import Derived.Test.YtgkmlcghkkpgpaaVoSpec
import Derived.Test.YtgkmlcghkkpgpaaPcEq
namespace Go.Proofs.Ytgkmlcghkkpgpaa
open Go.RowKit
set_option linter.unusedVariables false

theorem pc_eql (p q : Vo.Pc) (w : World) : (binOp .eql 33 (pcV p) (pcV q)).run Try.prog w = .ok (.bool (Vo.eqB p q)) w := by
  have h := pc_equalIn p q w
  unfold pcV at h ⊢
  rw [run_eql_struct, h]
  rfl
namespace Vo
/-- Where the first one is, or -1. -/
def firstI (P : List Pc) (f : Pc → Bool) : Int := if P.findIdx f < P.length then (P.findIdx f : Int) else -1
end Vo

set_option maxHeartbeats 2000000 in
theorem pindex_any (P : List Vo.Pc) (v : Value) (x : Vo.Pc) (B : Nat) (w : World) (hv : Lv pK w B v P) (hB : B ≤ w.heap.size) :
    Calls Try.prog 43 #[v, pcV x] w (fun e w' => e = .returned (.int .i64 (Vo.firstI P (fun q => Vo.eqB x q))) ∧ Below w.heap.size w w') := by
  obtain ⟨W, hW⟩ : ∃ W, w.alloc (.cells #[.bool x.join, .int .u8 (x.byte : Nat), .int .i64 x.left, .int .i64 x.right, .int .u32 (x.rank : Nat)] 33) = W := ⟨_, rfl⟩
  obtain ⟨⟨_, hx⟩, hbx⟩ := pboxed hW
  have x0 := hx 0 _ rfl
  have x1 := hx 1 _ rfl
  have x2 := hx 2 _ rfl
  have x3 := hx 3 _ rfl
  have x4 := hx 4 _ rfl
  have HB := Lib.hid hbx
  have HV := Lib.hid (hv.below_ hbx hB)
  have hlen : P.length ≤ 9223372036854775807 := by obtain ⟨_, _, _, h1, h2, _⟩ := hv; simp only [maxLen] at h2; omega
  obtain ⟨A, c, rfl, _, _, _, _⟩ := hv
  obtain ⟨T, hT⟩ : ∃ T, P.findIdx (fun q => Vo.eqB x q) = T := ⟨_, rfl⟩
  have HX : Hid (Vo.firstI P (fun q => Vo.eqB x q) = if T < P.length then (T : Int) else -1) := by unfold Hid Vo.firstI; rw [hT]
  have HT : Hid (T ≤ P.length) := by rw [← hT]; exact Vo.first_le
  have HN : Hid (∀ k q, k < T → P[k]? = some q → Vo.eqB x q = false) := fun k q hk hq => Vo.first_not (f := fun q => Vo.eqB x q) (by rw [hT]; exact hk) hq
  have HI : Hid (∀ q, P[T]? = some q → Vo.eqB x q = true) := fun q hq => Vo.first_is (f := fun q => Vo.eqB x q) (by rw [hT]; exact hq)
  have hgd := pc_guard
  have HEQ : Hid (∀ q w, (binOp .eql 33 (pcV x) (pcV q)).run Try.prog w = .ok (.bool (Vo.eqB x q)) w) := fun q w => pc_eql x q w
  obtain ⟨xj, xb, xl, xr, xk⟩ := x
  simp only at x0 x1 x2 x3 x4 hW
  unfold pcV
  clear hx hbx hT
  go_enter Try.func43, Try.ntmps43
  go_wp2
  go_loopw [5, 8] (fun _ s wr => ∃ k n : Nat, k ≤ T ∧ s = .int .i64 k ∧ wr = W.drewN n) (fun _ s _ => P.length - (intOf s).toNat)
  case atStart => exact ⟨0, 0, by omega, rfl, rfl⟩
  case round =>
    obtain ⟨k, n, hk, rfl, rfl⟩ := hrel
    have hTl := HT.out
    by_cases hlt : k < P.length
    · obtain ⟨b, off, q, rfl, hbB, hqok, hq, q0, q1, q2, q3, q4⟩ := HV.out.piece_ hlt
      have hki : (k : Int) < (P.length : Int) := by omega
      have heq := fun w => HEQ.out q w
      cases he : Vo.eqB ⟨xj, xb, xl, xr, xk⟩ q with
      | true =>
        have hkT : k = T := by
          apply Decidable.byContradiction
          intro h
          have := HN.out k q (by omega) hq
          rw [he] at this
          cases this
        have HK := Lib.hid hkT
        rw [he] at heq
        unfold pcV at heq
        obtain ⟨qj, qb, ql, qr, qk⟩ := q
        simp only at q0 q1 q2 q3 q4 heq
        clear hkT hq hqok he
        go_wp2
        go_quiet (fail)
        go_wp2
        go_ret
        refine ⟨?_, below_drewN (below_drewN HB.out _) _⟩
        rw [HX.out, if_pos (by have := HK.out; omega), ← HK.out]
        rfl
      | false =>
        have hkT : k + 1 ≤ T := by
          apply Decidable.byContradiction
          intro h
          obtain rfl : k = T := by omega
          have := HI.out q hq
          rw [he] at this
          cases this
        have HK := Lib.hid hkT
        rw [he] at heq
        unfold pcV at heq
        obtain ⟨qj, qb, ql, qr, qk⟩ := q
        simp only at q0 q1 q2 q3 q4 heq
        clear hkT hq hqok he
        go_wp2
        go_quiet (fail)
        go_wp2
        go_roundw
        case rel => exact ⟨k + 1, _, HK.out, by go_num, rfl⟩
        case measure => simp [intOf]; omega
    · have HE : Hid (¬ T < P.length) := by unfold Hid; omega
      go_wp2
      go_ret
      refine ⟨?_, below_drewN HB.out _⟩
      rw [HX.out, if_neg HE.out]
      rfl

namespace Vo
theorem findIdx_same {f g : Pc → Bool} : ∀ {P : List Pc}, (∀ q ∈ P, f q = g q) → P.findIdx f = P.findIdx g
  | [], _ => rfl
  | q :: r, h => by
    rw [List.findIdx_cons, List.findIdx_cons, h q (by simp), findIdx_same (P := r) (fun x hx => h x (by simp [hx]))]
theorem firstI_same {f g : Pc → Bool} {P : List Pc} (h : ∀ q ∈ P, f q = g q) : firstI P f = firstI P g := by
  unfold firstI; rw [findIdx_same h]
theorem good_byte {P : List Pc} (hg : Good P) {q : Pc} (hq : q ∈ P) (hj : q.join = false) : q = ⟨false, q.byte, 0, 0, 0⟩ := by
  obtain ⟨k, hk⟩ := List.getElem?_of_mem hq
  obtain ⟨h1, h2, h3, _⟩ := errAt_byte hj (hg k q hk)
  obtain ⟨a, b, c, d, e⟩ := q
  simp only at h1 h2 h3 hj
  rw [h1, h2, h3, hj]
theorem good_join {P : List Pc} (hg : Good P) {q : Pc} (hq : q ∈ P) (hj : q.join = true) : q.byte = 0 := by
  obtain ⟨k, hk⟩ := List.getElem?_of_mem hq
  exact (errAt_join hj (hg k q hk)).1
theorem byte_first {P : List Pc} (hm : May P) (hok : ∀ q ∈ P, q.byte < 256) {c : Nat} (hc : c < 256) : firstI P (fun q => eqB ⟨false, c, 0, 0, 0⟩ q) = (tokenOf P c : Int) := by
  have hg := (may_iff.1 hm).2.1
  have e : P.findIdx (fun q => eqB ⟨false, c, 0, 0, 0⟩ q) = tokenOf P c := findIdx_same (fun q hq => by
    rw [Bool.eq_iff_iff, eqB_iff]
    constructor
    · intro h; subst h; simp
    · intro h
      simp at h
      rw [good_byte hg hq h.1, h.2])
  unfold firstI
  rw [e, if_pos (tokenOf_lt hm hok hc)]
theorem join_first {P : List Pc} (hg : Good P) (l r : Int) : firstI P (fun q => eqB q ⟨true, 0, l, r, q.rank⟩) = if joinOf P l r < P.length then (joinOf P l r : Int) else -1 := by
  have e : P.findIdx (fun q => eqB q ⟨true, 0, l, r, q.rank⟩) = joinOf P l r := findIdx_same (fun q hq => by
    rw [Bool.eq_iff_iff, eqB_iff]
    constructor
    · intro h; rw [h]; simp
    · intro h
      simp at h
      have hb := good_join hg hq h.1.1
      obtain ⟨a, b, c, d, e⟩ := q
      simp only at h hb
      rw [h.1.1, h.1.2, h.2, hb])
  unfold firstI
  rw [e]
end Vo

set_option maxHeartbeats 1000000 in
theorem pbyte_any (P : List Vo.Pc) (v : Value) (c : Nat) (B : Nat) (w : World) (hv : Lv pK w B v P) (hB : B ≤ w.heap.size) (hc : c < 256) (hP : P.length ≤ 700) :
    Calls Try.prog 21 #[.agg #[v], .int .u8 (c : Nat)] w (IsCheck (Vo.byteE P c) w) := by
  obtain ⟨W, hW⟩ : ∃ W, w.alloc (.cells #[v] 24) = W := ⟨_, rfl⟩
  obtain ⟨d0, hsz, hb⟩ := boxed hW
  have HC := Lib.hid (pmay_any P v B W (hv.below_ hb hB) (Nat.le_trans hB hb.size))
  have HB := Lib.hid hb
  have HV := Lib.hid hv
  have HSZ := Lib.hid hsz
  have hok : ∀ q ∈ P, q.byte < 256 := fun q hq => (hv.ok_ q hq).1
  obtain ⟨A, cc, rfl, _, _, _, _⟩ := hv
  clear hsz hb
  by_cases hm : Vo.May P
  · rw [decide_eq_true hm] at HC
    have HX : Hid (Vo.byteE P c = (Vo.tokenOf P c, 0)) := by unfold Hid Vo.byteE; rw [if_pos hm]
    have HT : Hid (∀ w', Below w.heap.size w w' → Calls Try.prog 43 #[.slice A P.length cc, .agg #[.bool false, .int .u8 (c : Nat), .int .i64 0, .int .i64 0, .int .u32 0]] w' (fun e w'' => e = .returned (.int .i64 (Vo.tokenOf P c : Nat)) ∧ Below w'.heap.size w' w'')) := fun w' hb => by
      have h := pindex_any P _ ⟨false, c, 0, 0, 0⟩ B w' (HV.out.below_ hb hB) (Nat.le_trans hB hb.size)
      rw [Vo.byte_first hm hok hc] at h
      exact h
    clear hm hok
    go_enter Try.func21, Try.ntmps21
    go_wp2_with (fail)
    refine (HC.out).mono ?_
    rintro e w1 ⟨rfl, hb⟩
    have HB2 := Lib.hid (HB.out.trans (hb.mono HB.out.size))
    have d1 : w1.cell? ⟨w.heap.size, 0, none⟩ = some (.slice A P.length cc) := (hb.cell (p := ⟨w.heap.size, 0, none⟩) (by show w.heap.size < _; have := HSZ.out; omega)).trans d0
    have HR1 := Lib.hid (HT.out w1 HB2.out)
    clear hb HC HT
    go_wp2_with (fail)
    refine (HR1.out).mono ?_
    rintro e w2 ⟨rfl, hb⟩
    have HB3 := Lib.hid (HB2.out.trans (hb.mono HB2.out.size))
    clear hb HR1
    go_wp2
    go_ret2
    exact ⟨by rw [HX.out]; rfl, HB3.out⟩
  · rw [decide_eq_false hm] at HC
    have HX : Hid (Vo.byteE P c = (0, 11)) := by unfold Hid Vo.byteE; rw [if_neg hm]
    clear hm hok
    go_enter Try.func21, Try.ntmps21
    go_wp2_with (fail)
    refine (HC.out).mono ?_
    rintro e w1 ⟨rfl, hb⟩
    have HB2 := Lib.hid (HB.out.trans (hb.mono HB.out.size))
    clear hb HC
    go_wp2
    go_ret2
    exact ⟨by rw [HX.out]; rfl, HB2.out⟩

set_option maxHeartbeats 2000000 in
/-- The closure of Find. -/
theorem pfind1_any (x : Vo.Pc) (l r : Int) (bl br : Nat) (w : World) (hl : w.cell? ⟨bl, 0, none⟩ = some (.int .i64 l)) (hr : w.cell? ⟨br, 0, none⟩ = some (.int .i64 r)) (hbl : bl < w.heap.size) (hbr : br < w.heap.size) :
    Calls Try.prog 46 #[pcV x, .pointer (some ⟨bl, 0, none⟩), .pointer (some ⟨br, 0, none⟩)] w (fun e w' => e = .returned (.bool (Vo.eqB x ⟨true, 0, l, r, x.rank⟩)) ∧ Below w.heap.size w w') := by
  obtain ⟨W, hW⟩ : ∃ W, w.alloc (.cells #[.bool x.join, .int .u8 (x.byte : Nat), .int .i64 x.left, .int .i64 x.right, .int .u32 (x.rank : Nat)] 33) = W := ⟨_, rfl⟩
  obtain ⟨⟨_, hx⟩, hbx⟩ := pboxed hW
  have x0 := hx 0 _ rfl
  have x1 := hx 1 _ rfl
  have x2 := hx 2 _ rfl
  have x3 := hx 3 _ rfl
  have x4 := hx 4 _ rfl
  have HB := Lib.hid hbx
  have l1 := (hbx.cell (p := ⟨bl, 0, none⟩) hbl).trans hl
  have r1 := (hbx.cell (p := ⟨br, 0, none⟩) hbr).trans hr
  have hgd := pc_guard
  have heq := fun w => pc_eql x ⟨true, 0, l, r, x.rank⟩ w
  obtain ⟨o, ho⟩ : ∃ o, Vo.eqB x ⟨true, 0, l, r, x.rank⟩ = o := ⟨_, rfl⟩
  rw [ho] at heq ⊢
  obtain ⟨xj, xb, xl, xr, xk⟩ := x
  simp only at x0 x1 x2 x3 x4 hW
  unfold pcV at heq ⊢
  simp only [Int.natCast_zero] at heq
  clear hx hbx ho hl hr
  go_enter Try.func46, Try.ntmps46
  go_wp2
  go_ret
  exact ⟨rfl, HB.out⟩

set_option maxHeartbeats 2000000 in
theorem pindexFunc_any (P : List Vo.Pc) (v : Value) (l r : Int) (bl br : Nat) (B : Nat) (w : World) (hv : Lv pK w B v P) (hB : B ≤ w.heap.size) (hl : w.cell? ⟨bl, 0, none⟩ = some (.int .i64 l)) (hr : w.cell? ⟨br, 0, none⟩ = some (.int .i64 r)) (hbl : bl < w.heap.size) (hbr : br < w.heap.size) :
    Calls Try.prog 45 #[v, .func (.func 46) #[] #[.pointer (some ⟨bl, 0, none⟩), .pointer (some ⟨br, 0, none⟩)]] w
      (fun e w' => e = .returned (.int .i64 (Vo.firstI P (fun q => Vo.eqB q ⟨true, 0, l, r, q.rank⟩))) ∧ Below w.heap.size w w') := by
  have HV := Lib.hid hv
  have hlen : P.length ≤ 9223372036854775807 := by obtain ⟨_, _, _, h1, h2, _⟩ := hv; simp only [maxLen] at h2; omega
  obtain ⟨A, c, rfl, _, _, _, _⟩ := hv
  obtain ⟨f, hf⟩ : ∃ f : Vo.Pc → Bool, (fun q => Vo.eqB q ⟨true, 0, l, r, q.rank⟩) = f := ⟨_, rfl⟩
  have HF : Hid (∀ q w', Below w.heap.size w w' → Calls Try.prog 46 #[pcV q, .pointer (some ⟨bl, 0, none⟩), .pointer (some ⟨br, 0, none⟩)] w' (fun e w'' => e = .returned (.bool (f q)) ∧ Below w'.heap.size w' w'')) := fun q w' hb => by
    rw [← hf]
    exact pfind1_any q l r bl br w' ((hb.cell (p := ⟨bl, 0, none⟩) hbl).trans hl) ((hb.cell (p := ⟨br, 0, none⟩) hbr).trans hr) (Nat.lt_of_lt_of_le hbl hb.size) (Nat.lt_of_lt_of_le hbr hb.size)
  rw [hf]
  obtain ⟨T, hT⟩ : ∃ T, P.findIdx f = T := ⟨_, rfl⟩
  have HX : Hid (Vo.firstI P f = if T < P.length then (T : Int) else -1) := by unfold Hid Vo.firstI; rw [hT]
  have HT : Hid (T ≤ P.length) := by rw [← hT]; exact Vo.first_le
  have HN : Hid (∀ k q, k < T → P[k]? = some q → f q = false) := fun k q hk hq => Vo.first_not (by rw [hT]; exact hk) hq
  have HI : Hid (∀ q, P[T]? = some q → f q = true) := fun q hq => Vo.first_is (by rw [hT]; exact hq)
  clear hf hT hl hr
  go_enter Try.func45, Try.ntmps45
  go_wp2
  go_loopw [5, 8] (fun _ s wr => ∃ k : Nat, k ≤ T ∧ s = .int .i64 k ∧ Below w.heap.size w wr) (fun _ s _ => P.length - (intOf s).toNat)
  case atStart => exact ⟨0, by omega, rfl, Below.refl _ _⟩
  case round =>
    obtain ⟨k, hk, rfl, hbr'⟩ := hrel
    have HBr := Lib.hid hbr'
    clear hbr'
    have hTl := HT.out
    by_cases hlt : k < P.length
    · obtain ⟨b, off, q, rfl, hbB, hqok, hq, q0, q1, q2, q3, q4⟩ := (HV.out.below_ HBr.out hB).piece_ hlt
      have hki : (k : Int) < (P.length : Int) := by omega
      have HC := Lib.hid (HF.out q wr HBr.out)
      unfold pcV at HC
      cases he : f q with
      | true =>
        have hkT : k = T := by
          apply Decidable.byContradiction
          intro h
          have := HN.out k q (by omega) hq
          rw [he] at this
          cases this
        have HK := Lib.hid hkT
        rw [he] at HC
        clear hkT hq hqok he
        go_wp2_with (fail)
        refine HC.out.mono ?_
        rintro e w2 ⟨rfl, hb⟩
        have HB2 := Lib.hid (HBr.out.trans (hb.mono HBr.out.size))
        clear hb HC
        go_wp2
        go_ret
        refine ⟨?_, HB2.out⟩
        rw [HX.out, if_pos (by have := HK.out; omega), ← HK.out]
        rfl
      | false =>
        have hkT : k + 1 ≤ T := by
          apply Decidable.byContradiction
          intro h
          obtain rfl : k = T := by omega
          have := HI.out q hq
          rw [he] at this
          cases this
        have HK := Lib.hid hkT
        rw [he] at HC
        clear hkT hq hqok he
        go_wp2_with (fail)
        refine HC.out.mono ?_
        rintro e w2 ⟨rfl, hb⟩
        have HB2 := Lib.hid (HBr.out.trans (hb.mono HBr.out.size))
        clear hb HC
        go_wp2
        go_roundw
        case rel => exact ⟨k + 1, HK.out, by go_num, HB2.out⟩
        case measure => simp [intOf]; omega
    · have HE : Hid (¬ T < P.length) := by unfold Hid; omega
      go_wp2
      go_ret
      refine ⟨?_, HBr.out⟩
      rw [HX.out, if_neg HE.out]
      rfl
end Go.Proofs.Ytgkmlcghkkpgpaa
