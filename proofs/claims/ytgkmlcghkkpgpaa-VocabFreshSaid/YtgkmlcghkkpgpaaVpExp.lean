/-
  vocab.lay, expand, Expand, Size.
-/
import Derived.Test.YtgkmlcghkkpgpaaVpCheck
import Derived.Test.YtgkmlcghkkpgpaaVoSpec
import Derived.Deep.RegionHeld3
namespace Go.Proofs.Ytgkmlcghkkpgpaa
open Go.RowKit
set_option linter.unusedVariables false

/-- What lay answers: these bytes, where u lay or in new memory. -/
theorem grown_any {w w' : World} {r : Option Nat} (h : w.grownBy w' none) : w.grownBy w' r := ⟨h.os, h.tape, h.output, h.size, fun k hk _ => h.block k hk (by simp)⟩
def IsLaid (base : Nat) (r : List Nat) (u : Value) (w : World) (e : Ending) (w' : World) : Prop :=
  ∃ A c, e = .returned (.slice A r.length c) ∧ OwnL yK w' base (.slice A r.length c) r ∧ w.grownBy w' u.ownBlock ∧ Moved w u (.slice A r.length c)
theorem grown_two {w w1 w2 : World} {u u1 u2 : Value} (h1 : w.grownBy w1 u.ownBlock) (m1 : Moved w u u1) (h2 : w1.grownBy w2 u1.ownBlock) (m2 : Moved w1 u1 u2) (hu : ∀ k, u.ownBlock = some k → k < w.heap.size) : w.grownBy w2 u.ownBlock ∧ Moved w u u2 := by
  refine ⟨⟨h2.os.trans h1.os, h2.tape.trans h1.tape, h2.output.trans h1.output, Nat.le_trans h1.size h2.size, fun k hk hne => ?_⟩, fun k hk => ?_⟩
  · refine (h2.block k (Nat.lt_of_lt_of_le hk h1.size) (fun e => ?_)).trans (h1.block k hk hne)
    rcases m1 k e.symm with h | h
    · exact hne h.symm
    · omega
  · rcases m2 k hk with h | h
    · exact m1 k h
    · exact .inr (Nat.le_trans h1.size h)

set_option maxHeartbeats 4000000 in
theorem play_any (P : List Vo.Pc) (hg : Vo.Good P) (v : Value) (B : Nat) (base : Nat) (t : Nat) : ∀ (w : World) (u : Value) (l r : List Nat), r = l ++ Vo.text P t → t < P.length → Lv pK w B v P → B ≤ base → base ≤ w.heap.size → OwnL yK w base u l → l.length + (Vo.text P t).length ≤ 1000000 →
    Calls Try.prog 57 #[u, v, .int .i64 (t : Nat)] w (IsLaid base r u w) := by
  induction t using Nat.strongRecOn with
  | _ t ih =>
    intro w u l q hqe ht hv hBb hb hu hlen
    obtain ⟨A, c, rfl, _, _, _, _⟩ := id hv
    obtain ⟨Au, cu, rfl, _⟩ := hu.form_
    obtain ⟨b, off, p, rfl, hbB, hpok, hq, c0, c1, c2, c3, c4⟩ := hv.piece_ ht
    have hti : (t : Int) < (P.length : Int) := by omega
    obtain ⟨W, hW⟩ : ∃ W, w.alloc (.cells #[.bool p.join, .int .u8 (p.byte : Nat), .int .i64 p.left, .int .i64 p.right, .int .u32 (p.rank : Nat)] 33) = W := ⟨_, rfl⟩
    obtain ⟨⟨_, hx⟩, hbx⟩ := pboxed hW
    have x0 := hx 0 _ rfl
    have x1 := hx 1 _ rfl
    have x2 := hx 2 _ rfl
    have x3 := hx 3 _ rfl
    have HU := Lib.hid (hu.below_ hbx (Nat.le_refl _))
    have hlt := fun k hk => (hu.lt_ k hk).2
    have HG0 : Hid (w.grownBy W none) := by unfold Hid; rw [← hW]; exact World.grownBy_alloc w _ none
    have hbW : base ≤ W.heap.size := Nat.le_trans hb hbx.size
    have HVW := Lib.hid (hv.below_ (hbx.mono hb) hBb)
    have hsW : w.heap.size < W.heap.size := by rw [← hW]; simp
    have HLT := Lib.hid hlt
    clear hx hlt
    cases hj : p.join with
    | false =>
      rw [hj] at c0 hW x0
      have HX : Hid (Vo.text P t = [p.byte]) := Vo.text_byte hq hj
      have hpb : yK.ok p.byte := hpok.1
      rw [HX.out] at hlen hqe
      simp only [List.length_cons, List.length_nil, Nat.zero_add] at hlen
      have HQE := Lib.hid hqe
      clear hpok hq ih hj hv hu HX hbx hqe
      go_enter Try.func57, Try.ntmps57
      go_wp2_with (at_builtin; go_must (refine wpList_push_m _ yK rfl _ _ rfl base _ rfl l HU.out rfl p.byte hpb _ rfl _ rfl (by show _ * 1 ≤ _; omega) (by simp only [maxLen]; omega) hbW ?_; intro A3 c3 w3 hA hG hM))
      have HA := Lib.hid hA
      have HG := Lib.hid hG
      have HM := Lib.hid hM
      clear hA hG hM
      go_wp2
      go_ret
      have HQ2 : l.length + 1 = q.length := by rw [HQE.out]; simp
      rw [HQ2] at HA HM ⊢
      rw [← HQE.out] at HA
      exact ⟨A3, c3, rfl, HA.out, (grown_two (u := .slice Au l.length cu) (u1 := .slice Au l.length cu) (grown_any HG0.out) (fun k hk => .inl hk) HG.out HM.out HLT.out).1, (grown_two (u := .slice Au l.length cu) (u1 := .slice Au l.length cu) (grown_any HG0.out) (fun k hk => .inl hk) HG.out HM.out HLT.out).2⟩
    | true =>
      rw [hj] at c0 hW x0
      obtain ⟨hx, hl, hr, hl0, hr0⟩ := Vo.text_join hg hq hj
      obtain ⟨pj, pb, pl, pr, pk⟩ := p
      simp only at c0 c1 c2 c3 c4 hx hl hr hl0 hr0 hW x0 x1 x2 x3
      obtain ⟨L, rfl⟩ := Int.eq_ofNat_of_zero_le hl0
      obtain ⟨R, rfl⟩ := Int.eq_ofNat_of_zero_le hr0
      simp only [Int.toNat_natCast] at hx hl hr
      rw [hx, List.length_append] at hlen
      rw [hx, ← List.append_assoc] at hqe
      obtain ⟨q1, hq1⟩ : ∃ q1, q1 = l ++ Vo.text P L := ⟨_, rfl⟩
      rw [← hq1] at hqe
      have hq1l : q1.length = l.length + (Vo.text P L).length := by rw [hq1, List.length_append]
      have J1 := Lib.hid (ih L hl W.drew (.slice Au l.length cu) l q1 hq1 (by omega) HVW.out hBb hbW HU.out (by omega))
      have HR : Hid (∀ w' u', Below base W w' → OwnL yK w' base u' q1 → Calls Try.prog 57 #[u', .slice (some ⟨b, off, none⟩) P.length c, .int .i64 (R : Nat)] w' (IsLaid base q u' w')) := fun w' u' hb' ho' => ih R hr w' u' q1 q hqe (by omega) (HVW.out.below_ hb' hBb) hBb (Nat.le_trans hbW hb'.size) ho' (by omega)
      have HOWN := Lib.hid (fun k hk => (HU.out.lt_ k hk).1)
      have s0 : W.drew.cell? ⟨w.heap.size, 2, none⟩ = some (.int .i64 (L : Nat)) ∧ W.drew.cell? ⟨w.heap.size, 3, none⟩ = some (.int .i64 (R : Nat)) := ⟨x2, x3⟩
      have HNE : Hid (∀ w1 : World, W.drew.grownBy w1 (Value.slice Au l.length cu).ownBlock → w1.cell? ⟨w.heap.size, 2, none⟩ = some (.int .i64 (L : Nat)) ∧ w1.cell? ⟨w.heap.size, 3, none⟩ = some (.int .i64 (R : Nat))) := fun w1 g1 => by
        have hne : (Value.slice Au l.length cu).ownBlock ≠ some w.heap.size := fun e => absurd (HLT.out _ e) (Nat.lt_irrefl _)
        have e := g1.block w.heap.size hsW (fun e => hne e.symm)
        have ec : ∀ j, w1.cell? ⟨w.heap.size, j, none⟩ = W.cell? ⟨w.heap.size, j, none⟩ := fun j => by
          have e' : w1.heap[w.heap.size]? = W.heap[w.heap.size]? := e
          simp only [World.cell?, e']
        exact ⟨(ec 2).trans x2, (ec 3).trans x3⟩
      clear hpok hq ih hj hv hu hbx hx hl hr hl0 hr0 hqe hq1 hq1l
      go_enter Try.func57, Try.ntmps57
      go_wp2
      go_region_held3 (fun w' => w'.cell? ⟨w.heap.size, 2, none⟩ = some (.int .i64 (L : Nat)) ∧ w'.cell? ⟨w.heap.size, 3, none⟩ = some (.int .i64 (R : Nat))) (first | exact s0 | exact s1 | exact s2)
        (first
          | (go_at_call 57; (with_reducible refine J1.out.mono ?_); rintro e w1 ⟨A1, k1, rfl, o1, g1, m1⟩; have s1 := HNE.out w1 g1; have G1 := Lib.hid g1; have M1 := Lib.hid m1; have B1 := Lib.hid ((Below.refl base W).drew.grown g1 hbW (fun k hk => HOWN.out k hk)); have J2 := Lib.hid (HR.out w1 _ B1.out o1); clear o1 g1 m1)
          | (go_at_call 57; (with_reducible refine J2.out.mono ?_); rintro e w2 ⟨A2, k2, rfl, o2, g2, m2⟩; have s2 := HNE.out w2 (grown_two (u := .slice Au l.length cu) G1.out M1.out g2 m2 (fun k hk => Nat.lt_trans (HLT.out k hk) hsW)).1; have G2 := Lib.hid g2; have M2 := Lib.hid m2; have O2 := Lib.hid o2; clear o2 g2 m2))
      all_goals
        go_wp2
        go_ret
        have T1 := grown_two (u := .slice Au l.length cu) (u1 := .slice Au l.length cu) (grown_any HG0.out) (fun k hk => .inl hk) (show W.grownBy w1 _ from ⟨G1.out.os, G1.out.tape, G1.out.output, G1.out.size, G1.out.block⟩) M1.out HLT.out
        have T2 := grown_two (u := .slice Au l.length cu) T1.1 T1.2 G2.out M2.out HLT.out
        exact ⟨A2, k2, rfl, O2.out, T2.1, T2.2⟩

theorem pexp_any (P : List Vo.Pc) (hg : Vo.Good P) (v : Value) (B : Nat) (t : Nat) (w : World) (ht : t < P.length) (hv : Lv pK w B v P) (hB : B ≤ w.heap.size) :
    Calls Try.prog 41 #[v, .int .i64 (t : Nat)] w (IsL1 yK (Vo.text P t) w) := by
  have hz := Vo.text_size hg ht
  have H := Lib.hid (play_any P hg v B w.heap.size t w (.slice none 0 0) [] (Vo.text P t) rfl ht hv hB (Nat.le_refl _) (OwnL.nil_ _ _ _) (by simp; omega))
  obtain ⟨q, hq⟩ : ∃ q, Vo.text P t = q := ⟨_, rfl⟩
  rw [hq] at H ⊢
  clear hz hq
  obtain ⟨A, c, rfl, _, _, _, _⟩ := hv
  go_enter Try.func41, Try.ntmps41
  go_wp2_with (fail)
  refine H.out.mono ?_
  rintro e w' ⟨A', c', rfl, ho, hgr, hm⟩
  have HO := Lib.hid ho
  have HB := Lib.hid ((Below.refl w.heap.size w).grown hgr (Nat.le_refl _) (fun k hk => by cases hk))
  clear ho hgr hm H
  go_wp2
  go_ret
  exact ⟨A', c', rfl, HO.out, HB.out⟩

set_option maxHeartbeats 2000000 in
theorem pexpand_any (P : List Vo.Pc) (v : Value) (t : Int) (B : Nat) (w : World) (hv : Lv pK w B v P) (hB : B ≤ w.heap.size) (ht : I64 t) (hP : P.length ≤ 700) :
    Calls Try.prog 18 #[.agg #[v], .int .i64 t] w (IsLE yK (Vo.expandE P t) w) := by
  obtain ⟨W, hW⟩ : ∃ W, w.alloc (.cells #[v] 24) = W := ⟨_, rfl⟩
  obtain ⟨d0, hsz, hb⟩ := boxed hW
  have HC := Lib.hid (pmay_any P v B W (hv.below_ hb hB) (Nat.le_trans hB hb.size))
  have HB := Lib.hid hb
  have HV := Lib.hid hv
  have HSZ := Lib.hid hsz
  obtain ⟨A, c, rfl, h1, h2, _, _⟩ := hv
  have hl : P.length ≤ 9223372036854775807 := by simp only [maxLen] at h2; omega
  clear h1 h2 hsz hb
  by_cases hm : Vo.May P
  · rw [decide_eq_true hm] at HC
    have HG := Lib.hid (Vo.may_iff.1 hm).2.1
    by_cases hbad : t < 0 ∨ (P.length : Int) ≤ t
    · have HX : Hid (Vo.expandE P t = ([], 2)) := by unfold Hid Vo.expandE; rw [if_pos hm, if_pos hbad]
      rcases Decidable.em (t < 0) with h0 | h0
      · clear hbad hm
        go_enter Try.func18, Try.ntmps18
        go_wp2_with (fail)
        refine (HC.out).mono ?_
        rintro e w1 ⟨rfl, hb⟩
        have HB2 := Lib.hid (HB.out.trans (hb.mono HB.out.size))
        clear hb HC
        go_wp2
        go_ret2
        exact IsLE.none_b HX.out rfl HB2.out
      · have h1 : (P.length : Int) ≤ t := by omega
        clear hbad hm
        go_enter Try.func18, Try.ntmps18
        go_wp2_with (fail)
        refine (HC.out).mono ?_
        rintro e w1 ⟨rfl, hb⟩
        have HB2 := Lib.hid (HB.out.trans (hb.mono HB.out.size))
        have d1 : w1.cell? ⟨w.heap.size, 0, none⟩ = some (.slice A P.length c) := (hb.cell (p := ⟨w.heap.size, 0, none⟩) (by show w.heap.size < _; have := HSZ.out; omega)).trans d0
        clear hb HC
        go_wp2
        go_ret2
        exact IsLE.none_b HX.out rfl HB2.out
    · have HX : Hid (Vo.expandE P t = (Vo.text P t.toNat, 0)) := by unfold Hid Vo.expandE; rw [if_pos hm, if_neg hbad]
      obtain ⟨T, rfl⟩ := Int.eq_ofNat_of_zero_le (show 0 ≤ t by omega)
      rw [Int.toNat_natCast] at HX
      have HR : Hid (∀ w', Below w.heap.size w w' → Calls Try.prog 41 #[.slice A P.length c, .int .i64 (T : Nat)] w' (IsL1 yK (Vo.text P T) w')) := fun w' hb => pexp_any P HG.out _ B T w' (by omega) (HV.out.below_ hb hB) (Nat.le_trans hB hb.size)
      have h1 : ¬ (P.length : Int) ≤ (T : Int) := by omega
      clear hbad hm
      go_enter Try.func18, Try.ntmps18
      go_wp2_with (fail)
      refine (HC.out).mono ?_
      rintro e w1 ⟨rfl, hb⟩
      have HB2 := Lib.hid (HB.out.trans (hb.mono HB.out.size))
      have d1 : w1.cell? ⟨w.heap.size, 0, none⟩ = some (.slice A P.length c) := (hb.cell (p := ⟨w.heap.size, 0, none⟩) (by show w.heap.size < _; have := HSZ.out; omega)).trans d0
      have HR1 := Lib.hid (HR.out w1 HB2.out)
      clear hb HC HR
      go_wp2_with (fail)
      refine (HR1.out).mono ?_
      rintro e w2 ⟨A2, c2, rfl, ho, hb⟩
      have HO := Lib.hid (ho.mono_ HB2.out.size)
      have HB3 := Lib.hid (HB2.out.trans (hb.mono HB2.out.size))
      clear ho hb HR1
      go_wp2
      go_ret2
      exact IsLE.of HX.out rfl rfl HO.out HB3.out
  · rw [decide_eq_false hm] at HC
    have HX : Hid (Vo.expandE P t = ([], 11)) := by unfold Hid Vo.expandE; rw [if_neg hm]
    clear hm
    go_enter Try.func18, Try.ntmps18
    go_wp2_with (fail)
    refine (HC.out).mono ?_
    rintro e w1 ⟨rfl, hb⟩
    have HB2 := Lib.hid (HB.out.trans (hb.mono HB.out.size))
    clear hb HC
    go_wp2
    go_ret2
    exact IsLE.none_b HX.out rfl HB2.out

set_option maxHeartbeats 1000000 in
theorem psize_any (P : List Vo.Pc) (v : Value) (t : Int) (B : Nat) (w : World) (hv : Lv pK w B v P) (hB : B ≤ w.heap.size) (ht : I64 t) (hP : P.length ≤ 700) :
    Calls Try.prog 20 #[.agg #[v], .int .i64 t] w (IsCheck (Vo.sizeE P t) w) := by
  obtain ⟨W, hW⟩ : ∃ W, w.alloc (.cells #[v] 24) = W := ⟨_, rfl⟩
  obtain ⟨d0, hsz, hb⟩ := boxed hW
  have HC := Lib.hid (pexpand_any P v t B W (hv.below_ hb hB) (Nat.le_trans hB hb.size) ht hP)
  have HB := Lib.hid hb
  obtain ⟨A, c, rfl, _, _, _, _⟩ := hv
  obtain ⟨r, hr⟩ : ∃ r, Vo.expandE P t = r := ⟨_, rfl⟩
  have HX : Hid (Vo.sizeE P t = (r.1.length, r.2)) := by unfold Hid Vo.sizeE; rw [hr]
  rw [hr] at HC
  obtain ⟨l, n⟩ := r
  simp only at HX
  clear hsz hb hr
  go_enter Try.func20, Try.ntmps20
  go_wp2_with (fail)
  refine (HC.out).mono ?_
  rintro e w1 ⟨A1, c1, rfl, ho, hb⟩
  have HB2 := Lib.hid (HB.out.trans (hb.mono HB.out.size))
  clear hb HC ho
  go_wp2
  go_ret2
  exact ⟨by rw [HX.out]; rfl, HB2.out⟩
end Go.Proofs.Ytgkmlcghkkpgpaa
