/-
  RSfZa: stookref14: Append.
  RSfZb: stookref14: Write.
  RSfZc: stookref14: Cut.
-/
import Derived.Test.YtmcbjcbnckpfkaaGreatPt32
import Derived.Deep.QuietTactic
import Derived.BigQuiet
import Derived.Deep.RegionHeld3
namespace Go.Proofs.YtmcbjcbnckpfkaaGreat
open Go.RowKit
set_option linter.unusedVariables false
section
variable {w : World} {f : Fp} {t : Sf.St} {b : Nat}
set_option maxHeartbeats 4000000 in
set_option maxRecDepth 100000 in
theorem rappend_disk (h : RDiskM w f t b) (hf : Sf.Few t) (s : ByteArray) (v0 : Value) (B : Nat) (l : List Nat) (hv : Lv yK w B v0 l) (hB : B ≤ w.heap.size) :
    Calls Tryz.prog 31 #[.pointer (some ⟨b, 0, none⟩), .string s, v0] w (IsDeed RDiskM f b (Sf.append t s l) w) := by
  have HD := Lib.hid h
  have CU := Lib.hid (rused_disk h)
  obtain ⟨vf, vs, vr, vu, rf, rr, h⟩ := h
  have CG := Lib.hid (rget_head w t b vf vs vr vu h.head w.heap.size h.body.seen.lv s)
  have HH := Lib.hid h
  have HF := Lib.hid hf
  have HV := Lib.hid hv
  have HBB := Lib.hid hB
  have HLT := Lib.hid h.lt
  obtain ⟨k, er, hge⟩ : ∃ k er, Sf.get t s = (k, er) := ⟨_, _, rfl⟩
  have HE : Hid (Sf.append t s l = if er ≠ 0 then (er, t) else if 0 < l.length ∧ t.room < Sf.used t + l.length then (9, t) else Sf.add t k ⟨false, Sf.len t k, l⟩) := by unfold Hid Sf.append; rw [hge]
  rw [hge] at CG
  obtain ⟨A0, c0, ev, hc1, hc2, _, _⟩ := hv
  have hll : l.length ≤ 9223372036854775807 := by simp only [maxLen] at hc2; omega
  have HV0 : Hid (v0 = .slice A0 l.length c0) := ev
  by_cases he : er = 0
  · have hq : ((er : Int) == 0) = true := by rw [beq_iff_eq]; omega
    have HE1 : Hid (Sf.append t s l = if 0 < l.length ∧ t.room < Sf.used t + l.length then (9, t) else Sf.add t k ⟨false, Sf.len t k, l⟩) := HE.out.trans (if_neg (by simpa using he))
    rw [he] at hge
    have hk := get_lt h.good hge
    have hlu := Sf.len_used hge
    have hul := h.used_le
    have hlen := h.len_le hk
    have hroom := h.good.room
    obtain ⟨g, cf, evf, hgl, hsl, hnow⟩ := h.now_at hk
    have HK := Lib.hid hk
    have HNW := Lib.hid hnow
    have hb : b < w.heap.size := h.lt b (.inl h.mine)
    have hc : w.cell? ⟨b, 0, none⟩ = some (.int .i64 (t.room : Nat)) := h.cell rfl
    have hc1' : w.cell? ⟨b, 1, none⟩ = some (.slice (some ⟨g, 0, none⟩) t.files.length cf) := by have := h.cell (j := 1) rfl; rw [evf] at this; exact this
    have HC : Hid (∀ w', Below w.heap.size w w' → w'.cell? ⟨b, 0, none⟩ = some (.int .i64 (t.room : Nat)) ∧ w'.cell? ⟨b, 1, none⟩ = some (.slice (some ⟨g, 0, none⟩) t.files.length cf)) := fun w' hb' => ⟨(hb'.cell (p := ⟨b, 0, none⟩) hb).trans hc, (hb'.cell (p := ⟨b, 1, none⟩) hb).trans hc1'⟩
    have hki : (k : Int) < (t.files.length : Int) := by omega
    have hk0 : (0 : Int) ≤ (k : Int) := by omega
    have HLN : Hid (Sf.len t k = (Sf.now (Sf.fileAt t k)).length) := rfl
    clear HE he hge h hk evf hgl hnow hb hc hc1' hf hB ev hc1 hc2
    obtain ⟨U, hU⟩ : ∃ U, Sf.used t = U := ⟨_, rfl⟩
    obtain ⟨m, hm⟩ : ∃ m, Sf.len t k = m := ⟨_, rfl⟩
    rw [hU] at CU HE1 hlu hul
    rw [hm] at HE1 HLN hlu hlen
    have HU := Lib.hid hU
    clear hU hm
    by_cases h0 : 0 < l.length
    · have hli : (0 : Int) < (l.length : Int) := by omega
      have hd0 : decide (0 < l.length) = true := decide_eq_true h0
      have ws : IntKind.i64.wrap ((t.room : Int) - (U : Int)) = (t.room : Int) - (U : Int) := by rw [IntKind.wrap_i64]; omega
      by_cases hfull : t.room < U + l.length
      · have hfi : (t.room : Int) - (U : Int) < (l.length : Int) := by omega
        have HE2 : Hid (Sf.append t s l = (9, t)) := HE1.out.trans (if_pos ⟨h0, hfull⟩)
        clear HE1 h0 hfull
        go_enter Tryz.func31, Tryz.ntmps31
        rw [HV0.out]
        go_wp2_with fail
        refine CG.out.mono ?_
        rintro e1 w1 ⟨rfl, rfl⟩
        have s0 := (HC.out w.drew (Below.refl _ _).drew).1
        clear CG
        have CU2 := Lib.hid (rused_disk (HH.out.disk_below (Below.refl _ _).drew))
        rw [HU.out] at CU2
        go_wp2
        go_region_held3 (fun w' => w'.cell? ⟨b, 0, none⟩ = some (.int .i64 (t.room : Nat)))
          (first | exact s0 | exact s1)
          (first | (go_at_call 43; (with_reducible refine CU2.out.mono ?_); rintro en w9 ⟨rfl, hb9⟩; have HB9 := Lib.hid ((Below.refl w.heap.size w).drew.trans hb9); have s1 := (HC.out w9 ((Below.refl w.heap.size w).drew.trans hb9)).1; clear hb9))
        clear s0 s1 CU2
        go_wp2
        go_ret
        rw [HE2.out]
        exact ⟨rfl, f, HH.out.disk_below HB9.out, Fp.Next.refl _ _, (Turned.of_below HB9.out).mono (fun k hk hs => absurd hs (by omega))⟩
      · have hfi : ¬ (t.room : Int) - (U : Int) < (l.length : Int) := by omega
        have HE2 : Hid (Sf.append t s l = Sf.add t k ⟨false, m, l⟩) := HE1.out.trans (if_neg (fun h => hfull h.2))
        have HL20 : Hid (l.length ≤ 1048576) := by unfold Hid; omega
        have HDN : Hid ((Sf.done (Sf.now (Sf.fileAt t k)) ⟨false, m, l⟩).length ≤ 1048576) := by unfold Hid; rw [Sf.done_len_put (by rw [HLN.out]; exact Nat.le_refl _), ← HLN.out]; omega
        clear HE1 h0 hfull
        go_enter Tryz.func31, Tryz.ntmps31
        rw [HV0.out]
        go_wp2_with fail
        refine CG.out.mono ?_
        rintro e1 w1 ⟨rfl, rfl⟩
        have s0 := (HC.out w.drew (Below.refl _ _).drew).1
        clear CG
        have CU2 := Lib.hid (rused_disk (HH.out.disk_below (Below.refl _ _).drew))
        rw [HU.out] at CU2
        go_wp2
        go_region_held3 (fun w' => w'.cell? ⟨b, 0, none⟩ = some (.int .i64 (t.room : Nat)))
          (first | exact s0 | exact s1)
          (first | (go_at_call 43; (with_reducible refine CU2.out.mono ?_); rintro en w9 ⟨rfl, hb9⟩; have HB9 := Lib.hid ((Below.refl w.heap.size w).drew.trans hb9); have s1 := (HC.out w9 ((Below.refl w.heap.size w).drew.trans hb9)).1; clear hb9))
        clear s0 s1 CU2
        have CN := Lib.hid (HNW.out w9 HB9.out)
        have c1n := (HC.out w9 HB9.out).2
        go_wp2_with fail
        refine CN.out.mono ?_
        rintro e4 w4 ⟨A4, c4, rfl, ho4, hb4⟩
        rw [← HLN.out]
        have HB4 := Lib.hid (HB9.out.trans (hb4.mono HB9.out.size))
        clear CN ho4 hb4 c1n
        have HD5 := Lib.hid (rdone_any v0 l B w4 (HV.out.below_ HB4.out HBB.out) (Nat.le_trans HBB.out HB4.out.size) false 0 (.slice none 0 0) [] (Lv.nil_ _ _ _) (Nat.zero_le _) (by have := HL20.out; omega) (by simp))
        rw [done_none] at HD5
        go_wp2_with fail
        rw [HV0.out] at HD5
        refine HD5.out.mono ?_
        rintro e5 w5 ⟨A5, c5, rfl, ho5, hb5⟩
        have HB5 := Lib.hid (HB4.out.trans (hb5.mono HB4.out.size))
        have CA := Lib.hid (radd_disk (HH.out.disk_below HB5.out) HF.out w.heap.size HB5.out.size k HK.out false m (.slice A5 l.length c5) l ho5.form_ (fun _ k hk => ⟨fun hm => by have := HLT.out k (.inl hm); have := (ho5.lt_ k hk).1; have := HB4.out.size; omega, (ho5.lt_ k hk).2, .inr (Nat.le_trans HB4.out.size (ho5.lt_ k hk).1)⟩) (by rw [HLN.out]; exact Nat.le_refl _) HL20.out (fun h => by cases h) HDN.out)
        clear HD5 ho5 hb5
        go_wp2_with fail
        refine CA.out.mono ?_
        rintro e6 w6 ⟨rfl, f', hD, hN, hT⟩
        have HR := Lib.hid hD
        have HN := Lib.hid hN
        have HT := Lib.hid hT
        clear CA hD hN hT
        go_wp2
        go_ret
        rw [HE2.out]
        exact ⟨rfl, f', HR.out, HN.out, ((Turned.of_below HB5.out).mono (G := f.M) (fun k hk hs => absurd hs (by omega))).trans HT.out (fun k _ hk => hk)⟩
    · have hli : ¬ (0 : Int) < (l.length : Int) := by omega
      have hd0 : decide (0 < l.length) = false := decide_eq_false h0
      have HE2 : Hid (Sf.append t s l = Sf.add t k ⟨false, m, l⟩) := HE1.out.trans (if_neg (fun h => h0 h.1))
      have HL20 : Hid (l.length ≤ 1048576) := by unfold Hid; omega
      have HDN : Hid ((Sf.done (Sf.now (Sf.fileAt t k)) ⟨false, m, l⟩).length ≤ 1048576) := by unfold Hid; rw [Sf.done_len_put (by rw [HLN.out]; exact Nat.le_refl _), ← HLN.out]; omega
      clear HE1 h0
      go_enter Tryz.func31, Tryz.ntmps31
      rw [HV0.out]
      go_wp2_with fail
      refine CG.out.mono ?_
      rintro e1 w1 ⟨rfl, rfl⟩
      have s0 := (HC.out w.drew (Below.refl _ _).drew).1
      clear CG
      go_wp2
      go_quiet (fail)
      clear s0
      generalize hW9 : w.drewN _ = w9
      have HB9 : Hid (Below w.heap.size w w9) := by unfold Hid; rw [← hW9]; exact below_drewN (Below.refl _ _) _
      clear hW9
      have CN := Lib.hid (HNW.out w9 HB9.out)
      have c1n := (HC.out w9 HB9.out).2
      go_wp2_with fail
      refine CN.out.mono ?_
      rintro e4 w4 ⟨A4, c4, rfl, ho4, hb4⟩
      rw [← HLN.out]
      have HB4 := Lib.hid (HB9.out.trans (hb4.mono HB9.out.size))
      clear CN ho4 hb4 c1n
      have HD5 := Lib.hid (rdone_any v0 l B w4 (HV.out.below_ HB4.out HBB.out) (Nat.le_trans HBB.out HB4.out.size) false 0 (.slice none 0 0) [] (Lv.nil_ _ _ _) (Nat.zero_le _) (by have := HL20.out; omega) (by simp))
      rw [done_none] at HD5
      go_wp2_with fail
      rw [HV0.out] at HD5
      refine HD5.out.mono ?_
      rintro e5 w5 ⟨A5, c5, rfl, ho5, hb5⟩
      have HB5 := Lib.hid (HB4.out.trans (hb5.mono HB4.out.size))
      have CA := Lib.hid (radd_disk (HH.out.disk_below HB5.out) HF.out w.heap.size HB5.out.size k HK.out false m (.slice A5 l.length c5) l ho5.form_ (fun _ k hk => ⟨fun hm => by have := HLT.out k (.inl hm); have := (ho5.lt_ k hk).1; have := HB4.out.size; omega, (ho5.lt_ k hk).2, .inr (Nat.le_trans HB4.out.size (ho5.lt_ k hk).1)⟩) (by rw [HLN.out]; exact Nat.le_refl _) HL20.out (fun h => by cases h) HDN.out)
      clear HD5 ho5 hb5
      go_wp2_with fail
      refine CA.out.mono ?_
      rintro e6 w6 ⟨rfl, f', hD, hN, hT⟩
      have HR := Lib.hid hD
      have HN := Lib.hid hN
      have HT := Lib.hid hT
      clear CA hD hN hT
      go_wp2
      go_ret
      rw [HE2.out]
      exact ⟨rfl, f', HR.out, HN.out, ((Turned.of_below HB5.out).mono (G := f.M) (fun k hk hs => absurd hs (by omega))).trans HT.out (fun k _ hk => hk)⟩
  · have hq : ((er : Int) == 0) = false := by rw [beq_eq_false_iff_ne]; omega
    have HE2 : Hid (Sf.append t s l = (er, t)) := HE.out.trans (if_pos he)
    clear HE he hge h hf
    go_enter Tryz.func31, Tryz.ntmps31
    go_wp2_with fail
    refine CG.out.mono ?_
    rintro e1 w1 ⟨rfl, rfl⟩
    clear CG
    go_wp2
    go_ret
    rw [HE2.out]
    exact ⟨rfl, f, HD.out, Fp.Next.refl _ _, Turned.refl _ _⟩
end
end Go.Proofs.YtmcbjcbnckpfkaaGreat
namespace Go.Proofs.YtmcbjcbnckpfkaaGreat
open Go.RowKit
set_option linter.unusedVariables false
section
variable {w : World} {f : Fp} {t : Sf.St} {b : Nat}
set_option maxHeartbeats 4000000 in
set_option maxRecDepth 100000 in
theorem rwrite_disk (h : RDiskM w f t b) (hf : Sf.Few t) (s : ByteArray) (a : Int) (ha : I64 a) (v0 : Value) (B : Nat) (l : List Nat) (hv : Lv yK w B v0 l) (hB : B ≤ w.heap.size) :
    Calls Tryz.prog 32 #[.pointer (some ⟨b, 0, none⟩), .string s, .int .i64 a, v0] w (IsDeed RDiskM f b (Sf.write t s a l) w) := by
  have HD := Lib.hid h
  obtain ⟨vf, vs, vr, vu, rf, rr, h⟩ := h
  have CG := Lib.hid (rget_head w t b vf vs vr vu h.head w.heap.size h.body.seen.lv s)
  have HH := Lib.hid h
  have HF := Lib.hid hf
  have HV := Lib.hid hv
  have HBB := Lib.hid hB
  have HLT := Lib.hid h.lt
  obtain ⟨k, er, hge⟩ : ∃ k er, Sf.get t s = (k, er) := ⟨_, _, rfl⟩
  have HE : Hid (Sf.write t s a l = if er ≠ 0 then (er, t) else if a < 0 ∨ (Sf.len t k : Int) < a then (2, t) else if Sf.len t k < a.toNat + l.length ∧ t.room < Sf.used t + (a.toNat + l.length - Sf.len t k) then (9, t) else Sf.add t k ⟨false, a.toNat, l⟩) := by unfold Hid Sf.write; rw [hge]
  rw [hge] at CG
  obtain ⟨A0, c0, ev, hc1, hc2, _, _⟩ := hv
  have hll : l.length ≤ 9223372036854775807 := by simp only [maxLen] at hc2; omega
  have hl47 : l.length ≤ 9223372036854775807 := hll
  have HV0 : Hid (v0 = .slice A0 l.length c0) := ev
  unfold I64 at ha
  by_cases he : er = 0
  · have hq : ((er : Int) == 0) = true := by rw [beq_iff_eq]; omega
    have HE1 : Hid (Sf.write t s a l = if a < 0 ∨ (Sf.len t k : Int) < a then (2, t) else if Sf.len t k < a.toNat + l.length ∧ t.room < Sf.used t + (a.toNat + l.length - Sf.len t k) then (9, t) else Sf.add t k ⟨false, a.toNat, l⟩) := HE.out.trans (if_neg (by simpa using he))
    rw [he] at hge
    have hk := get_lt h.good hge
    have hlu := Sf.len_used hge
    have hul := h.used_le
    have hlen := h.len_le hk
    have hroom := h.good.room
    obtain ⟨g, cf, evf, hgl, hsl, hnow⟩ := h.now_at hk
    have HK := Lib.hid hk
    have HNW := Lib.hid hnow
    have hb : b < w.heap.size := h.lt b (.inl h.mine)
    have hc : w.cell? ⟨b, 0, none⟩ = some (.int .i64 (t.room : Nat)) := h.cell rfl
    have hc1' : w.cell? ⟨b, 1, none⟩ = some (.slice (some ⟨g, 0, none⟩) t.files.length cf) := by have := h.cell (j := 1) rfl; rw [evf] at this; exact this
    have HC : Hid (∀ w', Below w.heap.size w w' → w'.cell? ⟨b, 0, none⟩ = some (.int .i64 (t.room : Nat)) ∧ w'.cell? ⟨b, 1, none⟩ = some (.slice (some ⟨g, 0, none⟩) t.files.length cf)) := fun w' hb' => ⟨(hb'.cell (p := ⟨b, 0, none⟩) hb).trans hc, (hb'.cell (p := ⟨b, 1, none⟩) hb).trans hc1'⟩
    have hki : (k : Int) < (t.files.length : Int) := by omega
    have hk0 : (0 : Int) ≤ (k : Int) := by omega
    have HLN : Hid (Sf.len t k = (Sf.now (Sf.fileAt t k)).length) := rfl
    clear HE he hge h hk evf hgl hnow hb hc hc1' hf hB ev hc1 hc2
    obtain ⟨U, hU⟩ : ∃ U, Sf.used t = U := ⟨_, rfl⟩
    obtain ⟨m, hm⟩ : ∃ m, Sf.len t k = m := ⟨_, rfl⟩
    rw [hU] at HE1 hlu hul
    rw [hm] at HE1 HLN hlu hlen
    have HU := Lib.hid hU
    clear hU hm
    by_cases hneg : a < 0
    · have HE2 : Hid (Sf.write t s a l = (2, t)) := HE1.out.trans (if_pos (.inl hneg))
      clear HE1
      go_enter Tryz.func32, Tryz.ntmps32
      rw [HV0.out]
      have c1n := (HC.out w (Below.refl _ _)).2
      have CN := Lib.hid (HNW.out w (Below.refl _ _))
      go_wp2_with fail
      refine CG.out.mono ?_
      rintro e1 w1 ⟨rfl, rfl⟩
      clear CG
      go_wp2_with fail
      refine CN.out.mono ?_
      rintro e4 w4 ⟨A4, c4, rfl, ho4, hb4⟩
      rw [← HLN.out]
      have HB4 := Lib.hid hb4
      clear CN ho4 hb4 c1n
      go_wp2
      go_ret
      rw [HE2.out]
      exact ⟨rfl, f, HH.out.disk_below HB4.out, Fp.Next.refl _ _, (Turned.of_below HB4.out).mono (fun k hk hs => absurd hs (by omega))⟩
    · by_cases hbig : (m : Int) < a
      · have HE2 : Hid (Sf.write t s a l = (2, t)) := HE1.out.trans (if_pos (.inr hbig))
        clear HE1
        go_enter Tryz.func32, Tryz.ntmps32
        rw [HV0.out]
        have c1n := (HC.out w (Below.refl _ _)).2
        have CN := Lib.hid (HNW.out w (Below.refl _ _))
        go_wp2_with fail
        refine CG.out.mono ?_
        rintro e1 w1 ⟨rfl, rfl⟩
        clear CG
        go_wp2_with fail
        refine CN.out.mono ?_
        rintro e4 w4 ⟨A4, c4, rfl, ho4, hb4⟩
        rw [← HLN.out]
        have HB4 := Lib.hid hb4
        clear CN ho4 hb4 c1n
        go_wp2
        go_ret
        rw [HE2.out]
        exact ⟨rfl, f, HH.out.disk_below HB4.out, Fp.Next.refl _ _, (Turned.of_below HB4.out).mono (fun k hk hs => absurd hs (by omega))⟩
      · have HE3 : Hid (Sf.write t s a l = if m < a.toNat + l.length ∧ t.room < U + (a.toNat + l.length - m) then (9, t) else Sf.add t k ⟨false, a.toNat, l⟩) := HE1.out.trans (if_neg (by omega))
        obtain ⟨p, hp⟩ : ∃ p : Nat, a.toNat = p := ⟨_, rfl⟩
        have hap : a = (p : Int) := by omega
        rw [hp] at HE3
        subst hap
        have hpm : p ≤ m := by omega
        have ws1 : IntKind.i64.wrap ((m : Int) - (p : Int)) = (m : Int) - (p : Int) := by rw [IntKind.wrap_i64]; omega
        have ws2 : IntKind.i64.wrap ((l.length : Int) - ((m : Int) - (p : Int))) = (l.length : Int) - ((m : Int) - (p : Int)) := by rw [IntKind.wrap_i64]; omega
        have ws3 : IntKind.i64.wrap ((t.room : Int) - (U : Int)) = (t.room : Int) - (U : Int) := by rw [IntKind.wrap_i64]; omega
        clear hp HE1
        obtain ⟨q, hqq⟩ : ∃ q : Int, (l.length : Int) - ((m : Int) - (p : Int)) = q := ⟨_, rfl⟩
        rw [hqq] at ws2
        by_cases h0 : m < p + l.length
        · have hd0 : decide ((0 : Int) < q) = true := decide_eq_true (by omega)
          by_cases hfull : t.room < U + (p + l.length - m)
          · have hfi : decide ((t.room : Int) - (U : Int) < q) = true := decide_eq_true (by omega)
            have HE2 : Hid (Sf.write t s (p : Int) l = (9, t)) := HE3.out.trans (if_pos ⟨h0, hfull⟩)
            clear HE3 h0 hfull
            go_enter Tryz.func32, Tryz.ntmps32
            rw [HV0.out]
            have c1n := (HC.out w (Below.refl _ _)).2
            have CN := Lib.hid (HNW.out w (Below.refl _ _))
            go_wp2_with fail
            refine CG.out.mono ?_
            rintro e1 w1 ⟨rfl, rfl⟩
            clear CG
            go_wp2_with fail
            refine CN.out.mono ?_
            rintro e4 w4 ⟨A4, c4, rfl, ho4, hb4⟩
            rw [← HLN.out]
            have HB4 := Lib.hid hb4
            clear CN ho4 hb4 c1n
            have hbd := HB4.out.drew
            have CU2 := Lib.hid (rused_disk (HH.out.disk_below hbd))
            rw [HU.out] at CU2
            have s0 := (HC.out w4.drew hbd).1
            have HBD := Lib.hid hbd
            clear hbd
            go_wp2
            go_region_held3 (fun w' => w'.cell? ⟨b, 0, none⟩ = some (.int .i64 (t.room : Nat)))
              (first | exact s0 | exact s1)
              (first | (go_at_call 43; (with_reducible refine CU2.out.mono ?_); rintro en w9 ⟨rfl, hb9⟩; have HB9 := Lib.hid (HBD.out.trans (hb9.mono HBD.out.size)); have s1 := (HC.out w9 HB9.out).1; clear hb9))
            clear s0 s1 CU2
            go_wp2
            go_ret
            rw [HE2.out]
            exact ⟨rfl, f, HH.out.disk_below HB9.out, Fp.Next.refl _ _, (Turned.of_below HB9.out).mono (fun k hk hs => absurd hs (by omega))⟩
          · have hfi : decide ((t.room : Int) - (U : Int) < q) = false := decide_eq_false (by omega)
            have HE2 : Hid (Sf.write t s (p : Int) l = Sf.add t k ⟨false, p, l⟩) := HE3.out.trans (if_neg (fun h => hfull h.2))
            have HL20 : Hid (l.length ≤ 1048576) := by unfold Hid; omega
            have HDN : Hid ((Sf.done (Sf.now (Sf.fileAt t k)) ⟨false, p, l⟩).length ≤ 1048576) := by unfold Hid; rw [Sf.done_len_put (by rw [← HLN.out]; omega), ← HLN.out]; omega
            clear HE3 h0 hfull
            go_enter Tryz.func32, Tryz.ntmps32
            rw [HV0.out]
            have c1n := (HC.out w (Below.refl _ _)).2
            have CN := Lib.hid (HNW.out w (Below.refl _ _))
            go_wp2_with fail
            refine CG.out.mono ?_
            rintro e1 w1 ⟨rfl, rfl⟩
            clear CG
            go_wp2_with fail
            refine CN.out.mono ?_
            rintro e4 w4 ⟨A4, c4, rfl, ho4, hb4⟩
            rw [← HLN.out]
            have HB4 := Lib.hid hb4
            clear CN ho4 hb4 c1n
            have hbd := HB4.out.drew
            have CU2 := Lib.hid (rused_disk (HH.out.disk_below hbd))
            rw [HU.out] at CU2
            have s0 := (HC.out w4.drew hbd).1
            have HBD := Lib.hid hbd
            clear hbd
            go_wp2
            go_region_held3 (fun w' => w'.cell? ⟨b, 0, none⟩ = some (.int .i64 (t.room : Nat)))
              (first | exact s0 | exact s1)
              (first | (go_at_call 43; (with_reducible refine CU2.out.mono ?_); rintro en w9 ⟨rfl, hb9⟩; have HB9 := Lib.hid (HBD.out.trans (hb9.mono HBD.out.size)); have s1 := (HC.out w9 HB9.out).1; clear hb9))
            clear s0 s1 CU2
            have HD5 := Lib.hid (rdone_any v0 l B w9 (HV.out.below_ HB9.out HBB.out) (Nat.le_trans HBB.out HB9.out.size) false 0 (.slice none 0 0) [] (Lv.nil_ _ _ _) (Nat.zero_le _) (by have := HL20.out; omega) (by simp))
            rw [done_none] at HD5
            go_wp2_with fail
            rw [HV0.out] at HD5
            refine HD5.out.mono ?_
            rintro e5 w5 ⟨A5, c5, rfl, ho5, hb5⟩
            have HB5 := Lib.hid (HB9.out.trans (hb5.mono HB9.out.size))
            have CA := Lib.hid (radd_disk (HH.out.disk_below HB5.out) HF.out w.heap.size HB5.out.size k HK.out false p (.slice A5 l.length c5) l ho5.form_ (fun _ k hk => ⟨fun hm => by have := HLT.out k (.inl hm); have := (ho5.lt_ k hk).1; have := HB9.out.size; omega, (ho5.lt_ k hk).2, .inr (Nat.le_trans HB9.out.size (ho5.lt_ k hk).1)⟩) (by rw [← HLN.out]; omega) HL20.out (fun h => by cases h) HDN.out)
            clear HD5 ho5 hb5
            go_wp2_with fail
            refine CA.out.mono ?_
            rintro e6 w6 ⟨rfl, f', hD, hN, hT⟩
            have HR := Lib.hid hD
            have HN := Lib.hid hN
            have HT := Lib.hid hT
            clear CA hD hN hT
            go_wp2
            go_ret
            rw [HE2.out]
            exact ⟨rfl, f', HR.out, HN.out, ((Turned.of_below HB5.out).mono (G := f.M) (fun k hk hs => absurd hs (by omega))).trans HT.out (fun k _ hk => hk)⟩
        · have hd0 : decide ((0 : Int) < q) = false := decide_eq_false (by omega)
          have HE2 : Hid (Sf.write t s (p : Int) l = Sf.add t k ⟨false, p, l⟩) := HE3.out.trans (if_neg (fun h => h0 h.1))
          have HL20 : Hid (l.length ≤ 1048576) := by unfold Hid; omega
          have HDN : Hid ((Sf.done (Sf.now (Sf.fileAt t k)) ⟨false, p, l⟩).length ≤ 1048576) := by unfold Hid; rw [Sf.done_len_put (by rw [← HLN.out]; omega), ← HLN.out]; omega
          clear HE3 h0
          go_enter Tryz.func32, Tryz.ntmps32
          rw [HV0.out]
          have c1n := (HC.out w (Below.refl _ _)).2
          have CN := Lib.hid (HNW.out w (Below.refl _ _))
          go_wp2_with fail
          refine CG.out.mono ?_
          rintro e1 w1 ⟨rfl, rfl⟩
          clear CG
          go_wp2_with fail
          refine CN.out.mono ?_
          rintro e4 w4 ⟨A4, c4, rfl, ho4, hb4⟩
          rw [← HLN.out]
          have HB4 := Lib.hid hb4
          clear CN ho4 hb4 c1n
          go_wp2
          go_quiet (fail)
          generalize hW9 : w4.drewN _ = w9
          have HB9 : Hid (Below w.heap.size w w9) := by unfold Hid; rw [← hW9]; exact below_drewN HB4.out _
          clear hW9
          have HD5 := Lib.hid (rdone_any v0 l B w9 (HV.out.below_ HB9.out HBB.out) (Nat.le_trans HBB.out HB9.out.size) false 0 (.slice none 0 0) [] (Lv.nil_ _ _ _) (Nat.zero_le _) (by have := HL20.out; omega) (by simp))
          rw [done_none] at HD5
          go_wp2_with fail
          rw [HV0.out] at HD5
          refine HD5.out.mono ?_
          rintro e5 w5 ⟨A5, c5, rfl, ho5, hb5⟩
          have HB5 := Lib.hid (HB9.out.trans (hb5.mono HB9.out.size))
          have CA := Lib.hid (radd_disk (HH.out.disk_below HB5.out) HF.out w.heap.size HB5.out.size k HK.out false p (.slice A5 l.length c5) l ho5.form_ (fun _ k hk => ⟨fun hm => by have := HLT.out k (.inl hm); have := (ho5.lt_ k hk).1; have := HB9.out.size; omega, (ho5.lt_ k hk).2, .inr (Nat.le_trans HB9.out.size (ho5.lt_ k hk).1)⟩) (by rw [← HLN.out]; omega) HL20.out (fun h => by cases h) HDN.out)
          clear HD5 ho5 hb5
          go_wp2_with fail
          refine CA.out.mono ?_
          rintro e6 w6 ⟨rfl, f', hD, hN, hT⟩
          have HR := Lib.hid hD
          have HN := Lib.hid hN
          have HT := Lib.hid hT
          clear CA hD hN hT
          go_wp2
          go_ret
          rw [HE2.out]
          exact ⟨rfl, f', HR.out, HN.out, ((Turned.of_below HB5.out).mono (G := f.M) (fun k hk hs => absurd hs (by omega))).trans HT.out (fun k _ hk => hk)⟩
  · have hq : ((er : Int) == 0) = false := by rw [beq_eq_false_iff_ne]; omega
    have HE2 : Hid (Sf.write t s a l = (er, t)) := HE.out.trans (if_pos he)
    clear HE he hge h hf
    go_enter Tryz.func32, Tryz.ntmps32
    go_wp2_with fail
    refine CG.out.mono ?_
    rintro e1 w1 ⟨rfl, rfl⟩
    clear CG
    go_wp2
    go_ret
    rw [HE2.out]
    exact ⟨rfl, f, HD.out, Fp.Next.refl _ _, Turned.refl _ _⟩
end
end Go.Proofs.YtmcbjcbnckpfkaaGreat
namespace Go.Proofs.YtmcbjcbnckpfkaaGreat
open Go.RowKit
set_option linter.unusedVariables false
section
variable {w : World} {f : Fp} {t : Sf.St} {b : Nat}
set_option maxHeartbeats 4000000 in
set_option maxRecDepth 100000 in
theorem rcut_disk (h : RDiskM w f t b) (hf : Sf.Few t) (s : ByteArray) (a : Int) (ha : I64 a) :
    Calls Tryz.prog 33 #[.pointer (some ⟨b, 0, none⟩), .string s, .int .i64 a] w (IsDeed RDiskM f b (Sf.cut t s a) w) := by
  have HD := Lib.hid h
  obtain ⟨vf, vs, vr, vu, rf, rr, h⟩ := h
  have CG := Lib.hid (rget_head w t b vf vs vr vu h.head w.heap.size h.body.seen.lv s)
  have HH := Lib.hid h
  have HF := Lib.hid hf
  have HLT := Lib.hid h.lt
  obtain ⟨k, er, hge⟩ : ∃ k er, Sf.get t s = (k, er) := ⟨_, _, rfl⟩
  have HE : Hid (Sf.cut t s a = if er ≠ 0 then (er, t) else if a < 0 ∨ (Sf.len t k : Int) < a then (2, t) else Sf.add t k ⟨true, a.toNat, []⟩) := by unfold Hid Sf.cut; rw [hge]
  rw [hge] at CG
  unfold I64 at ha
  by_cases he : er = 0
  · have hq : ((er : Int) == 0) = true := by rw [beq_iff_eq]; omega
    have HE1 : Hid (Sf.cut t s a = if a < 0 ∨ (Sf.len t k : Int) < a then (2, t) else Sf.add t k ⟨true, a.toNat, []⟩) := HE.out.trans (if_neg (by simpa using he))
    rw [he] at hge
    have hk := get_lt h.good hge
    have hlen := h.len_le hk
    obtain ⟨g, cf, evf, hgl, hsl, hnow⟩ := h.now_at hk
    have HK := Lib.hid hk
    have HNW := Lib.hid hnow
    have hb : b < w.heap.size := h.lt b (.inl h.mine)
    have hc1' : w.cell? ⟨b, 1, none⟩ = some (.slice (some ⟨g, 0, none⟩) t.files.length cf) := by have := h.cell (j := 1) rfl; rw [evf] at this; exact this
    have HC : Hid (∀ w', Below w.heap.size w w' → w'.cell? ⟨b, 1, none⟩ = some (.slice (some ⟨g, 0, none⟩) t.files.length cf)) := fun w' hb' => (hb'.cell (p := ⟨b, 1, none⟩) hb).trans hc1'
    have hki : (k : Int) < (t.files.length : Int) := by omega
    have hk0 : (0 : Int) ≤ (k : Int) := by omega
    have HLN : Hid (Sf.len t k = (Sf.now (Sf.fileAt t k)).length) := rfl
    clear HE he hge h hk evf hgl hnow hb hc1' hf
    obtain ⟨m, hm⟩ : ∃ m, Sf.len t k = m := ⟨_, rfl⟩
    rw [hm] at HE1 HLN hlen
    clear hm
    by_cases hneg : a < 0
    · have HE2 : Hid (Sf.cut t s a = (2, t)) := HE1.out.trans (if_pos (.inl hneg))
      have HB4 : Hid (Below w.heap.size w w) := Below.refl _ _
      clear HE1
      go_enter Tryz.func33, Tryz.ntmps33
      have c1n := HC.out w (Below.refl _ _)
      have CN := Lib.hid (HNW.out w (Below.refl _ _))
      go_wp2_with fail
      refine CG.out.mono ?_
      rintro e1 w1 ⟨rfl, rfl⟩
      clear CG
      go_wp2
      go_ret
      rw [HE2.out]
      exact ⟨rfl, f, HH.out.disk_below HB4.out, Fp.Next.refl _ _, (Turned.of_below HB4.out).mono (fun k hk hs => absurd hs (by omega))⟩
    · by_cases hbig : (m : Int) < a
      · have HE2 : Hid (Sf.cut t s a = (2, t)) := HE1.out.trans (if_pos (.inr hbig))
        clear HE1
        go_enter Tryz.func33, Tryz.ntmps33
        have c1n := HC.out w (Below.refl _ _)
        have CN := Lib.hid (HNW.out w (Below.refl _ _))
        go_wp2_with fail
        refine CG.out.mono ?_
        rintro e1 w1 ⟨rfl, rfl⟩
        clear CG
        go_wp2_with fail
        refine CN.out.mono ?_
        rintro e4 w4 ⟨A4, c4, rfl, ho4, hb4⟩
        rw [← HLN.out]
        have HB4 := Lib.hid hb4
        clear CN ho4 hb4 c1n
        go_wp2
        go_ret
        rw [HE2.out]
        exact ⟨rfl, f, HH.out.disk_below HB4.out, Fp.Next.refl _ _, (Turned.of_below HB4.out).mono (fun k hk hs => absurd hs (by omega))⟩
      · have HE3 : Hid (Sf.cut t s a = Sf.add t k ⟨true, a.toNat, []⟩) := HE1.out.trans (if_neg (by omega))
        obtain ⟨p, hp⟩ : ∃ p : Nat, a.toNat = p := ⟨_, rfl⟩
        have hap : a = (p : Int) := by omega
        rw [hp] at HE3
        subst hap
        have hpm : p ≤ m := by omega
        have HE2 : Hid (Sf.cut t s (p : Int) = Sf.add t k ⟨true, p, []⟩) := HE3.out
        have HDN : Hid ((Sf.done (Sf.now (Sf.fileAt t k)) ⟨true, p, []⟩).length ≤ 1048576) := by unfold Hid; rw [Sf.done_len_cut (by rw [← HLN.out]; omega)]; omega
        clear hp HE1 HE3
        go_enter Tryz.func33, Tryz.ntmps33
        have c1n := HC.out w (Below.refl _ _)
        have CN := Lib.hid (HNW.out w (Below.refl _ _))
        go_wp2_with fail
        refine CG.out.mono ?_
        rintro e1 w1 ⟨rfl, rfl⟩
        clear CG
        go_wp2_with fail
        refine CN.out.mono ?_
        rintro e4 w4 ⟨A4, c4, rfl, ho4, hb4⟩
        rw [← HLN.out]
        have HB4 := Lib.hid hb4
        clear CN ho4 hb4 c1n
        have CA := Lib.hid (radd_disk (HH.out.disk_below HB4.out) HF.out w.heap.size HB4.out.size k HK.out true p (.slice none 0 0) [] (Lv.nil_ _ _ _) (fun h => absurd h (by simp)) (by rw [← HLN.out]; omega) (by simp) (fun _ => rfl) HDN.out)
        go_wp2_with fail
        refine CA.out.mono ?_
        rintro e6 w6 ⟨rfl, f', hD, hN, hT⟩
        have HR := Lib.hid hD
        have HN := Lib.hid hN
        have HT := Lib.hid hT
        clear CA hD hN hT
        go_wp2
        go_ret
        rw [HE2.out]
        exact ⟨rfl, f', HR.out, HN.out, ((Turned.of_below HB4.out).mono (G := f.M) (fun k hk hs => absurd hs (by omega))).trans HT.out (fun k _ hk => hk)⟩
  · have hq : ((er : Int) == 0) = false := by rw [beq_eq_false_iff_ne]; omega
    have HE2 : Hid (Sf.cut t s a = (er, t)) := HE.out.trans (if_pos he)
    clear HE he hge h hf
    go_enter Tryz.func33, Tryz.ntmps33
    go_wp2_with fail
    refine CG.out.mono ?_
    rintro e1 w1 ⟨rfl, rfl⟩
    clear CG
    go_wp2
    go_ret
    rw [HE2.out]
    exact ⟨rfl, f, HD.out, Fp.Next.refl _ _, Turned.refl _ _⟩
end
end Go.Proofs.YtmcbjcbnckpfkaaGreat
