/-
  stookref08.Joins.
-/
import Derived.Test.YtgkmlcghkkpgpaaRVoE
import Derived.Test.YtgkmlcghkkpgpaaCutL
namespace Go.Proofs.Ytgkmlcghkkpgpaa
open Go.RowKit
set_option linter.unusedVariables false

theorem iK_el : Try.prog.elem iK.s = iK.e := by kernel_rfl
namespace Vo
def rankAt (P : List Pc) (t : Int) : Nat := match P[t.toNat]? with | some q => q.rank | none => 0
theorem rankAt_of {P : List Pc} {t : Nat} {q : Pc} (h : P[t]? = some q) : rankAt P (t : Int) = q.rank := by simp [rankAt, h]
/-- Where a join of this rank is put. -/
def place (P : List Pc) (o : List Int) (r : Nat) : Nat := o.findIdx (fun t => !decide (rankAt P t < r))
def joinsTo (P : List Pc) : Nat → List Int
  | 0 => []
  | k + 1 => match P[k]? with
    | some q => if q.join = true then (joinsTo P k).take (place P (joinsTo P k) q.rank) ++ [(k : Int)] ++ (joinsTo P k).drop (place P (joinsTo P k) q.rank) else joinsTo P k
    | none => joinsTo P k
def joinsE (P : List Pc) : List Int := if May P then joinsTo P P.length else []
theorem joinsTo_byte {P : List Pc} {k : Nat} {q : Pc} (h : P[k]? = some q) (hj : q.join = false) : joinsTo P (k + 1) = joinsTo P k := by
  rw [joinsTo, h]; simp [hj]
theorem joinsTo_join {P : List Pc} {k : Nat} {q : Pc} (h : P[k]? = some q) (hj : q.join = true) : joinsTo P (k + 1) = (joinsTo P k).take (place P (joinsTo P k) q.rank) ++ [(k : Int)] ++ (joinsTo P k).drop (place P (joinsTo P k) q.rank) := by
  rw [joinsTo, h]; simp [hj]
theorem joinsTo_mem {P : List Pc} {k : Nat} {t : Int} (h : t ∈ joinsTo P k) : ∃ (T : Nat) (q : Pc), t = (T : Int) ∧ T < k ∧ P[T]? = some q ∧ q.join = true := by
  induction k with
  | zero => simp [joinsTo] at h
  | succ k ih =>
    have hin : t ∈ joinsTo P k → ∃ (T : Nat) (q : Pc), t = (T : Int) ∧ T < k + 1 ∧ P[T]? = some q ∧ q.join = true := fun h => by
      obtain ⟨T, q, h1, h2, h3⟩ := ih h
      exact ⟨T, q, h1, by omega, h3⟩
    cases hp : P[k]? with
    | none => rw [joinsTo, hp] at h; exact hin h
    | some q =>
      cases hj : q.join with
      | false => rw [joinsTo_byte hp hj] at h; exact hin h
      | true =>
        rw [joinsTo_join hp hj] at h
        simp only [List.mem_append, List.mem_singleton] at h
        rcases h with (h | h) | h
        · exact hin (List.mem_of_mem_take h)
        · exact ⟨k, q, h, by omega, hp, hj⟩
        · exact hin (List.mem_of_mem_drop h)
theorem joinsTo_len (P : List Pc) (k : Nat) : (joinsTo P k).length ≤ k := by
  induction k with
  | zero => simp [joinsTo]
  | succ k ih =>
    cases hp : P[k]? with
    | none => rw [joinsTo, hp]; simp only; omega
    | some q =>
      cases hj : q.join with
      | false => rw [joinsTo_byte hp hj]; omega
      | true =>
        rw [joinsTo_join hp hj]
        simp only [List.length_append, List.length_take, List.length_drop, List.length_singleton]
        omega
theorem place_le (P : List Pc) (o : List Int) (r : Nat) : place P o r ≤ o.length := List.findIdx_le_length
theorem place_next {P : List Pc} {o : List Int} {r j : Nat} {t : Int} (h : j ≤ place P o r) (ht : o[j]? = some t) (hr : rankAt P t < r) : j + 1 ≤ place P o r := by
  rcases Nat.lt_or_ge j (place P o r) with h1 | h1
  · exact h1
  · have e : j = place P o r := by omega
    have hj : j < o.length := (List.getElem?_eq_some_iff.1 ht).1
    have h2 := List.findIdx_getElem (p := fun t => !decide (rankAt P t < r)) (xs := o) (w := by show place P o r < o.length; omega)
    have h3 : o[o.findIdx (fun t => !decide (rankAt P t < r))]? = some t := by rw [← ht, e]; rfl
    rw [List.getElem?_eq_getElem (by show place P o r < o.length; omega)] at h3
    rw [Option.some.inj h3] at h2
    simp at h2
    omega
theorem place_stop {P : List Pc} {o : List Int} {r j : Nat} (h : j ≤ place P o r) (hs : o.length ≤ j ∨ ∃ t, o[j]? = some t ∧ ¬ rankAt P t < r) : place P o r = j := by
  rcases hs with hs | ⟨t, ht, hr⟩
  · have := place_le P o r; omega
  · rcases Nat.lt_or_ge j (place P o r) with h1 | h1
    · have hj : j < o.length := (List.getElem?_eq_some_iff.1 ht).1
      have h2 := List.not_of_lt_findIdx h1
      rw [List.getElem?_eq_getElem hj] at ht
      rw [Option.some.inj ht] at h2
      simp at h2
      omega
    · omega
end Vo

set_option maxHeartbeats 4000000 in
theorem rjoins_any (P : List Vo.Pc) (v : Value) (B : Nat) (w : World) (hv : Lv pK w B v P) (hB : B ≤ w.heap.size) :
    Calls Try.prog 29 #[.agg #[v]] w (IsL1 iK (Vo.joinsE P) w) := by
  obtain ⟨W, hW⟩ : ∃ W, w.alloc (.cells #[v] 24) = W := ⟨_, rfl⟩
  obtain ⟨d0, hsz, hb⟩ := boxed hW
  have HC := Lib.hid (rmay_voc P v B W (hv.below_ hb hB) (Nat.le_trans hB hb.size))
  have HB := Lib.hid hb
  have HV := Lib.hid hv
  have HSZ := Lib.hid hsz
  have HD0 := Lib.hid d0
  obtain ⟨A, cc, rfl, h1, h2, _, _⟩ := hv
  have hl : P.length ≤ 9223372036854775807 := by simp only [maxLen] at h2; omega
  clear h1 h2 hb hsz
  by_cases hm : Vo.May P
  · rw [decide_eq_true hm] at HC
    have HX : Hid (Vo.joinsE P = Vo.joinsTo P P.length) := by unfold Hid Vo.joinsE; rw [if_pos hm]
    have HPL : Hid (P.length ≤ 4096) := (Vo.may_iff.1 hm).1
    clear hm
    go_enter Try.func29, Try.ntmps29
    go_wp2_with (fail)
    refine (HC.out).mono ?_
    rintro e w1 ⟨rfl, hb⟩
    have HB1 := Lib.hid hb
    clear hb HC
    go_wp2
    go_loopw [3, 4] (fun u i wr => ∃ k : Nat, k ≤ P.length ∧ i = .int .i64 k ∧ Hid (OwnL iK wr W.heap.size u (Vo.joinsTo P k)) ∧ Below W.heap.size W wr) (fun _ i _ => P.length - (intOf i).toNat)
    case atStart => exact ⟨0, by omega, rfl, OwnL.nil_ _ _ _, HB1.out⟩
    case round =>
      obtain ⟨k, hk, rfl, HO, hbr⟩ := hrel
      have hsz := HSZ.out
      have d1 : wr.cell? ⟨w.heap.size, 0, none⟩ = some (.slice A P.length cc) := (hbr.cell (p := ⟨w.heap.size, 0, none⟩) (by show w.heap.size < _; omega)).trans HD0.out
      have HBr := Lib.hid hbr
      have HBw := Lib.hid (HB.out.trans (hbr.mono HB.out.size))
      obtain ⟨A3, c3, rfl, hc3, _⟩ := HO.out.form_
      have HC3 := Lib.hid hc3
      have HOL : Hid ((Vo.joinsTo P k).length ≤ 4096) := Nat.le_trans (Vo.joinsTo_len P k) (Nat.le_trans hk HPL.out)
      clear hbr HB1 hc3 d0
      by_cases hkl : k < P.length
      · obtain ⟨b, off, p, rfl, hbB, hpok, hp, p0, p1, p2, p3, p4⟩ := (HV.out.below_ HBw.out hB).piece_ hkl
        have hki : (k : Int) < (P.length : Int) := by omega
        have HK : Hid (k + 1 ≤ P.length) := hkl
        cases hj : p.join with
        | false =>
          rw [hj] at p0
          have HO2 : Hid (OwnL iK wr W.heap.size (.slice A3 (Vo.joinsTo P k).length c3) (Vo.joinsTo P (k + 1))) := by unfold Hid; rw [Vo.joinsTo_byte hp hj]; exact HO.out
          clear hp hpok hsz
          go_wp2
          go_roundw
          case rel => exact ⟨k + 1, HK.out, by go_num, HO2.out, HBr.out⟩
          case measure => simp [intOf]; omega
        | true =>
          rw [hj] at p0
          have HJ := Lib.hid (Vo.joinsTo_join hp hj)
          have HM : Hid (∀ t ∈ Vo.joinsTo P k, ∃ (T : Nat) (q : Vo.Pc), t = (T : Int) ∧ T < k ∧ P[T]? = some q ∧ q.join = true) := fun t h => Vo.joinsTo_mem h
          have HPo : Hid (P[k]? = some p) := hp
          have HKI : Hid (I64 (k : Int)) := i64_nat (by omega)
          obtain ⟨o, ho⟩ : ∃ o, Vo.joinsTo P k = o := ⟨_, rfl⟩
          rw [ho] at HO HJ HM HOL HC3 ⊢
          clear hp hpok hj ho hsz HBw
          go_wp2
          go_loopw [5] (fun s wq => ∃ j : Nat, j ≤ Vo.place P o p.rank ∧ s = .int .i64 j ∧ Hid (OwnL iK wq W.heap.size (.slice A3 o.length c3) o) ∧ Below W.heap.size W wq) (fun s _ => o.length + 1 - (intOf s).toNat)
          case atStart => exact ⟨0, by omega, rfl, HO.out, HBr.out⟩
          case round =>
            obtain ⟨j, hjp, rfl, HOq, hbq⟩ := hrel
            have hsz := HSZ.out
            have dq : wr.cell? ⟨w.heap.size, 0, none⟩ = some (.slice (some ⟨b, off, none⟩) P.length cc) := by
              exact (hbq.cell (p := ⟨w.heap.size, 0, none⟩) (by show w.heap.size < _; omega)).trans HD0.out
            have HBq := Lib.hid hbq
            have HBwq := Lib.hid (HB.out.trans (hbq.mono HB.out.size))
            have hvq := HV.out.below_ HBwq.out hB
            have hjo : j ≤ o.length := Nat.le_trans hjp (Vo.place_le _ _ _)
            have hj9 : (j : Int) ≤ 4096 := by have := HOL.out; omega
            obtain ⟨b', off', p', e, _, _, hp', _, _, _, _, q4⟩ := hvq.piece_ hkl
            rw [HPo.out] at hp'
            obtain rfl := Option.some.inj hp'
            obtain ⟨rfl, rfl⟩ : b = b' ∧ off = off' := by injection e with e; injection e with e1 e2; exact ⟨e1, e2⟩
            clear hbq HBr HO d1 e p0 p1 p2 p3 p4
            by_cases hjl : j < o.length
            · obtain ⟨g, t, rfl, _, _, _, ht, hct, _⟩ := HOq.out.int_ hjl
              obtain ⟨T, q, rfl, hTk, hq, _⟩ := HM.out t (List.mem_of_getElem? ht)
              obtain ⟨b', off', q', e, _, _, hq', _, _, _, _, r4⟩ := hvq.piece_ (k := T) (by omega)
              rw [hq] at hq'
              obtain rfl := Option.some.inj hq'
              obtain ⟨rfl, rfl⟩ : b = b' ∧ off = off' := by injection e with e; injection e with e1 e2; exact ⟨e1, e2⟩
              have hrk := Vo.rankAt_of hq
              have hd : decide (j < o.length) = true := by simp; omega
              have hji : (j : Int) < (o.length : Int) := by omega
              have hTi : (T : Int) < (P.length : Int) := by omega
              obtain ⟨qr, hqr⟩ : ∃ n, q.rank = n := ⟨_, rfl⟩
              obtain ⟨pr, hpr⟩ : ∃ n, p.rank = n := ⟨_, rfl⟩
              rw [hqr] at r4 hrk
              rw [hpr] at q4 hjp HJ ⊢
              by_cases hr : qr < pr
              · have hd2 : decide (qr < pr) = true := by simp; omega
                have HN : Hid (j + 1 ≤ Vo.place P o pr) := Vo.place_next hjp ht (by rw [hrk]; exact hr)
                clear ht hq hrk hr hqr hpr e hTk hsz hvq hjp hjo hjl
                go_wp2
                go_quiet (fail)
                go_wp2
                have := HN.out
                have := Vo.place_le P o pr
                exact ⟨⟨j + 1, HN.out, by go_num, HOq.out.drewN_ _, below_drewN HBq.out _⟩, by simp [intOf]; omega⟩
              · have hd2 : decide (qr < pr) = false := by simp; omega
                have HNX := HJ
                rw [Vo.place_stop hjp (.inr ⟨_, ht, by rw [hrk]; exact hr⟩)] at HNX
                generalize hA3 : (some (⟨g, 0, none⟩ : Addr)) = A3 at *
                clear ht hq hrk hr hqr hpr e hTk hsz hvq hjp hjl
                subst hA3
                go_wp2
                go_quiet (fail)
                generalize hW9 : wr.drewN _ = w9
                have HO9 : Hid (OwnL iK w9 W.heap.size (.slice (some ⟨g, 0, none⟩) o.length c3) o) := by unfold Hid; rw [← hW9]; exact HOq.out.drewN_ _
                have HB9 : Hid (Below W.heap.size W w9) := by unfold Hid; rw [← hW9]; exact below_drewN HBq.out _
                have d9 : w9.cell? ⟨w.heap.size, 0, none⟩ = some (.slice (some ⟨b, off, none⟩) P.length cc) := by rw [← hW9]; exact dq
                clear hW9 dq HOq HBq
                have htk := HO9.out.form_.take_ (k := j) hjo
                obtain ⟨A', f1, f2, f3, _⟩ := cut_from iK iK_el (some ⟨g, 0, none⟩) o.length c3 j hjo HC3.out
                have g1 := cut_to iK iK_el (some ⟨g, 0, none⟩) o.length c3 j (Nat.le_trans hjo HC3.out)
                have g2 := cutAt_to iK iK_el (some ⟨g, 0, none⟩) o.length c3 j (Nat.le_trans hjo HC3.out)
                have HF := Lib.hid (f3 _ _ _ HO9.out.form_)
                obtain ⟨t, ht⟩ : ∃ t, o.take j = t := ⟨_, rfl⟩
                obtain ⟨d, hd⟩ : ∃ d, o.drop j = d := ⟨_, rfl⟩
                have htl : t.length = j := by rw [← ht, List.length_take]; omega
                have hdl : d.length = o.length - j := by rw [← hd, List.length_drop]
                have HL : Hid (t.length + d.length ≤ 8192) := by have := HOL.out; unfold Hid; omega
                have HT1 : Hid (t.length = j) := htl
                obtain ⟨dn, hdn⟩ : ∃ dn, o.length - j = dn := ⟨_, rfl⟩
                rw [hdn] at f1 f2 HF
                rw [ht] at htk
                rw [hd] at HF
                rw [ht, hd] at HNX
                have HTK := Lib.hid htk
                have hbs : W.heap.size ≤ w9.heap.size := HB9.out.size
                change ∀ w, (Instr.slice 47 (.slice (some ⟨g, 0, none⟩) o.length c3) none (some (.int .i64 (j : Nat))) none).run Try.prog w = _ at g1
                change ∀ w, (Instr.sliceAt 47 (.slice (some ⟨g, 0, none⟩) o.length c3) none (some (.int .i64 (j : Nat))) none).run Try.prog w = _ at g2
                change ∀ w, (Instr.slice 47 (.slice (some ⟨g, 0, none⟩) o.length c3) (some (.int .i64 (j : Nat))) none none).run Try.prog w = _ at f1
                change ∀ w, (Instr.sliceAt 47 (.slice (some ⟨g, 0, none⟩) o.length c3) (some (.int .i64 (j : Nat))) none none).run Try.prog w = _ at f2
                clear ht hd f3 htk htl hdl hdn
                go_wp2_with (at_builtin; go_must (refine wpList_append_l _ iK rfl _ _ rfl w9.heap.size (.slice none 0 0) rfl [] (OwnL.nil_ _ _ _) (.slice (some ⟨g, 0, none⟩) j c3) rfl w9.heap.size t HTK.out (by have := HL.out; show _ * 8 ≤ _; simp only [List.length_nil]; omega) (by have := HL.out; simp only [List.length_nil, maxLen]; omega) (Nat.le_refl _) ?_))
                intro A5 c5 w5 hA hG
                have HG5 := Lib.hid ((Below.refl w9.heap.size w9).grown hG (Nat.le_refl _) (by intro k hk; cases hk))
                have HA5 := Lib.hid hA
                clear hA hG
                go_wp2_with (at_builtin; go_must (refine wpList_push_l _ iK rfl _ _ rfl w9.heap.size (.slice A5 t.length c5) rfl t HA5.out rfl (k : Int) HKI.out _ rfl _ rfl (by have := HL.out; show _ * 8 ≤ _; omega) (by have := HL.out; simp only [maxLen]; omega) HG5.out.size ?_))
                intro A6 c6 w6 hA hG
                have HG6 := Lib.hid (HG5.out.grown hG HG5.out.size (fun k hk => (HA5.out.lt_ k hk).1))
                have HA6 := Lib.hid hA
                have HF6 := Lib.hid (HF.out.below_ HG6.out (Nat.le_refl _))
                clear hA hG HA5 HG5
                go_wp2_with (at_builtin; go_must (refine wpList_append_l _ iK rfl _ _ rfl w9.heap.size (.slice A6 (t.length + 1) c6) rfl (t ++ [(k : Int)]) HA6.out _ rfl w9.heap.size d HF6.out (by have := HL.out; show _ * 8 ≤ _; simp; omega) (by have := HL.out; simp [maxLen]; omega) HG6.out.size ?_))
                intro A7 c7 w7 hA hG
                have HG7 := Lib.hid (HB9.out.trans ((HG6.out.grown hG HG6.out.size (fun k hk => (HA6.out.lt_ k hk).1)).mono hbs))
                have HA7 : Hid (OwnL iK w7 W.heap.size (.slice A7 (t.length + (d.length + 1)) c7) (Vo.joinsTo P (k + 1))) := by unfold Hid; rw [HNX.out, List.append_assoc]; exact hA.mono_ hbs
                clear hA hG HA6 HG6 HF6 HF HTK
                go_wp2
                go_roundw
                case rel => exact ⟨k + 1, HK.out, by go_num, HA7.out, HG7.out⟩
                case measure => simp [intOf]; omega
            · have hd : decide (j < o.length) = false := by simp; omega
              have hji : ¬ (j : Int) < (o.length : Int) := by omega
              have HNX := HJ
              rw [Vo.place_stop hjp (.inl (by omega))] at HNX
              clear hsz hvq hjp hjl q4
              go_wp2
              go_quiet (fail)
              generalize hW9 : wr.drewN _ = w9
              have HO9 : Hid (OwnL iK w9 W.heap.size (.slice A3 o.length c3) o) := by unfold Hid; rw [← hW9]; exact HOq.out.drewN_ _
              have HB9 : Hid (Below W.heap.size W w9) := by unfold Hid; rw [← hW9]; exact below_drewN HBq.out _
              have d9 : w9.cell? ⟨w.heap.size, 0, none⟩ = some (.slice (some ⟨b, off, none⟩) P.length cc) := by rw [← hW9]; exact dq
              clear hW9 dq HOq HBq
              have htk := HO9.out.form_.take_ (k := j) hjo
              obtain ⟨A', f1, f2, f3, _⟩ := cut_from iK iK_el A3 o.length c3 j hjo HC3.out
              have g1 := cut_to iK iK_el A3 o.length c3 j (Nat.le_trans hjo HC3.out)
              have g2 := cutAt_to iK iK_el A3 o.length c3 j (Nat.le_trans hjo HC3.out)
              have HF := Lib.hid (f3 _ _ _ HO9.out.form_)
              obtain ⟨t, ht⟩ : ∃ t, o.take j = t := ⟨_, rfl⟩
              obtain ⟨d, hd⟩ : ∃ d, o.drop j = d := ⟨_, rfl⟩
              have htl : t.length = j := by rw [← ht, List.length_take]; omega
              have hdl : d.length = o.length - j := by rw [← hd, List.length_drop]
              have HL : Hid (t.length + d.length ≤ 8192) := by have := HOL.out; unfold Hid; omega
              have HT1 : Hid (t.length = j) := htl
              obtain ⟨dn, hdn⟩ : ∃ dn, o.length - j = dn := ⟨_, rfl⟩
              rw [hdn] at f1 f2 HF
              rw [ht] at htk
              rw [hd] at HF
              rw [ht, hd] at HNX
              have HTK := Lib.hid htk
              have hbs : W.heap.size ≤ w9.heap.size := HB9.out.size
              change ∀ w, (Instr.slice 47 (.slice A3 o.length c3) none (some (.int .i64 (j : Nat))) none).run Try.prog w = _ at g1
              change ∀ w, (Instr.sliceAt 47 (.slice A3 o.length c3) none (some (.int .i64 (j : Nat))) none).run Try.prog w = _ at g2
              change ∀ w, (Instr.slice 47 (.slice A3 o.length c3) (some (.int .i64 (j : Nat))) none none).run Try.prog w = _ at f1
              change ∀ w, (Instr.sliceAt 47 (.slice A3 o.length c3) (some (.int .i64 (j : Nat))) none none).run Try.prog w = _ at f2
              clear ht hd f3 htk htl hdl hdn
              go_wp2_with (at_builtin; go_must (refine wpList_append_l _ iK rfl _ _ rfl w9.heap.size (.slice none 0 0) rfl [] (OwnL.nil_ _ _ _) (.slice A3 j c3) rfl w9.heap.size t HTK.out (by have := HL.out; show _ * 8 ≤ _; simp only [List.length_nil]; omega) (by have := HL.out; simp only [List.length_nil, maxLen]; omega) (Nat.le_refl _) ?_))
              intro A5 c5 w5 hA hG
              have HG5 := Lib.hid ((Below.refl w9.heap.size w9).grown hG (Nat.le_refl _) (by intro k hk; cases hk))
              have HA5 := Lib.hid hA
              clear hA hG
              go_wp2_with (at_builtin; go_must (refine wpList_push_l _ iK rfl _ _ rfl w9.heap.size (.slice A5 t.length c5) rfl t HA5.out rfl (k : Int) HKI.out _ rfl _ rfl (by have := HL.out; show _ * 8 ≤ _; omega) (by have := HL.out; simp only [maxLen]; omega) HG5.out.size ?_))
              intro A6 c6 w6 hA hG
              have HG6 := Lib.hid (HG5.out.grown hG HG5.out.size (fun k hk => (HA5.out.lt_ k hk).1))
              have HA6 := Lib.hid hA
              have HF6 := Lib.hid (HF.out.below_ HG6.out (Nat.le_refl _))
              clear hA hG HA5 HG5
              go_wp2_with (at_builtin; go_must (refine wpList_append_l _ iK rfl _ _ rfl w9.heap.size (.slice A6 (t.length + 1) c6) rfl (t ++ [(k : Int)]) HA6.out _ rfl w9.heap.size d HF6.out (by have := HL.out; show _ * 8 ≤ _; simp; omega) (by have := HL.out; simp [maxLen]; omega) HG6.out.size ?_))
              intro A7 c7 w7 hA hG
              have HG7 := Lib.hid (HB9.out.trans ((HG6.out.grown hG HG6.out.size (fun k hk => (HA6.out.lt_ k hk).1)).mono hbs))
              have HA7 : Hid (OwnL iK w7 W.heap.size (.slice A7 (t.length + (d.length + 1)) c7) (Vo.joinsTo P (k + 1))) := by unfold Hid; rw [HNX.out, List.append_assoc]; exact hA.mono_ hbs
              clear hA hG HA6 HG6 HF6 HF HTK
              go_wp2
              go_roundw
              case rel => exact ⟨k + 1, HK.out, by go_num, HA7.out, HG7.out⟩
              case measure => simp [intOf]; omega
      · obtain rfl : k = P.length := by omega
        have hki : ¬ (P.length : Int) < (P.length : Int) := by omega
        clear hsz
        go_wp2
        go_ret
        unfold IsL1
        rw [HX.out]
        exact ⟨A3, c3, rfl, HO.out.mono_ HB.out.size, HBw.out⟩
  · rw [decide_eq_false hm] at HC
    have HX : Hid (Vo.joinsE P = []) := by unfold Hid Vo.joinsE; rw [if_neg hm]
    clear hm
    go_enter Try.func29, Try.ntmps29
    go_wp2_with (fail)
    refine (HC.out).mono ?_
    rintro e w1 ⟨rfl, hb⟩
    have HB2 := Lib.hid (HB.out.trans (hb.mono HB.out.size))
    clear hb HC
    go_wp2
    go_ret
    unfold IsL1
    rw [HX.out]
    exact ⟨none, 0, rfl, OwnL.nil_ _ _ _, HB2.out⟩
end Go.Proofs.Ytgkmlcghkkpgpaa
