/-
  PfLay: simfs: lay.
  PfW: simfs: Append, Write, Cut.
  PfSd: simfs: SyncDir.
-/
import Derived.Test.YtmcbjcbnckpfkaaGreatPt20
import Derived.Deep.QuietTactic
import Derived.BigQuiet
import Derived.Deep.RegionHeld3
import Derived.Test.YtmcbjcbnckpfkaaGreatPt17
namespace Go.Proofs.YtmcbjcbnckpfkaaGreat
open Go.RowKit
set_option linter.unusedVariables false
def Sf.layOf (t : Sf.St) (n a : Nat) (l : List Nat) : Nat × Sf.St := if Sf.len t n < a + l.length ∧ t.room < Sf.used t + (a + l.length - Sf.len t n) then (9, t) else Sf.add t n ⟨false, a, l⟩
section
variable {w : World} {fp : Fp} {t : Sf.St} {b : Nat} {who : Who} {bf bs bn : Nat} {vr : Sl} {ff : Int → Option RawX} {rn : List RawN}
theorem PHas.used_le (h : PHas w fp 0 t b who bf bs bn vr ff rn) : Sf.used t ≤ 67108864 := by
  unfold Sf.used
  split
  · omega
  · have h1 := Sf.lens_bound (t := t) (m := 1048576) t.seen (fun e he => by
      obtain ⟨x, _, _, h3⟩ := h.file_at (n := e.2) ⟨t.seen, .inr (.inl rfl), e, he, rfl⟩
      exact h3.len_le)
    have h2 := (h.good.lens t.seen (.inr (.inl rfl))).1
    have h4 : t.seen.length * 1048576 ≤ 64 * 1048576 := Nat.mul_le_mul_right _ h2
    omega
set_option maxHeartbeats 4000000 in
set_option maxRecDepth 100000 in
theorem play_disk (h : PHas w fp 0 t b who bf bs bn vr ff rn) (hf : Sf.Few t) {u : ByteArray} {n : Nat} (hg : Sf.get t u = (n, 0)) (a : Nat) (ha : a ≤ Sf.len t n) (v : Value) (B : Nat) (l : List Nat) (hv : Lv yK w B v l) (hB : B ≤ w.heap.size) :
    Calls Tryz.prog 71 #[.pointer (some ⟨b, 0, none⟩), .int .i64 (n : Nat), .int .i64 (a : Nat), v] w (IsDeed PDisk fp b (Sf.layOf t n a l) w) := by
  have HH := Lib.hid h
  have HFEW := Lib.hid hf
  have CU := Lib.hid (pused_disk h (Nat.zero_le _))
  have hul := h.used_le
  have hlu := Sf.len_used_p hg
  have hroom := h.good.room
  obtain ⟨x, hx, hn, hX, hxn, hl20, hxc, hxm, hlk⟩ := h.look (Nat.zero_le _) hg
  have c1 : w.cell? ⟨b, 1, none⟩ = some (.map (some bf)) := h.cell rfl
  have c0 : w.cell? ⟨b, 0, none⟩ = some (.int .i64 (t.room : Nat)) := h.cell rfl
  have hbl : b < w.heap.size := h.lt b (by rw [h.mine]; rfl)
  have HX := Lib.hid hx
  have HXX := Lib.hid hX
  have HN := Lib.hid hn
  obtain ⟨⟨a1, a2, a3⟩, ⟨a4, a5, a6⟩, ⟨a7, a8, a9⟩⟩ := x
  simp only [slV] at hxn hlk hxc
  have hfd := fun w => file_now (.slice a1 a2 a3) (.slice a4 a5 a6) (.slice a7 a8 a9) w
  have HV := Lib.hid hv
  have HBB := Lib.hid hB
  obtain ⟨A0, c0', ev, hc1, hc2, _, _⟩ := hv
  have hll : l.length ≤ 9223372036854775807 := by simp only [maxLen] at hc2; omega
  have HE0 : Hid (Sf.layOf t n a l = if Sf.len t n < a + l.length ∧ t.room < Sf.used t + (a + l.length - Sf.len t n) then (9, t) else Sf.add t n ⟨false, a, l⟩) := rfl
  have HLEN : Hid (Sf.len t n = (Sf.now (Sf.fileAt t n)).length) := rfl
  obtain ⟨m, hm⟩ : ∃ m, Sf.len t n = m := ⟨_, rfl⟩
  obtain ⟨U, hU⟩ : ∃ U, Sf.used t = U := ⟨_, rfl⟩
  rw [hm] at HE0 hxn hl20 hxc hlu ha HLEN
  rw [hU] at HE0 hul hlu CU
  subst hxn
  have HDO : Hid (∀ w2 : World, Below w.heap.size w w2 → ∀ (A : Option Addr) (c : Nat), OwnL yK w2 w.heap.size (.slice A l.length c) l → l.length ≤ 1048576 → (Sf.done (Sf.now (Sf.fileAt t n)) ⟨false, a, l⟩).length ≤ 1048576 →
      Calls Tryz.prog 76 #[.pointer (some ⟨b, 0, none⟩), .int .i64 (n : Nat), .agg #[.int .i64 (a : Nat), .slice A l.length c, .bool false]] w2 (fun e w' => e = .returned (.int .i64 ((Sf.add t n ⟨false, a, l⟩).1 : Nat)) ∧ ∃ f', PDisk w' f' (Sf.add t n ⟨false, a, l⟩).2 b ∧ fp.Next f' w.heap.size ∧ Turned fp.M w2 w')) := fun w2 hb A c ho hd1 hd2 => by
    have h2 := HH.out.below hb
    obtain ⟨x', q1, q2, q3⟩ := h2.file_of hg
    exact pdoToFile_disk h2 HFEW.out q2 q1 q3 ⟨a, ⟨A, l.length, c⟩, false⟩ l ho.form_ (Nat.le_refl _) w.heap.size hb.size (fun hp k hk => ⟨HH.out.new (ho.lt_ k hk).1, (ho.lt_ k hk).2, (ho.lt_ k hk).1⟩) (by rw [← HLEN.out]; exact ha) hd1 (fun h => by cases h) hd2
  have HDN : Hid ((Sf.done (Sf.now (Sf.fileAt t n)) ⟨false, a, l⟩).length = max a8 (a + l.length)) := by unfold Hid; rw [Sf.done_len_put (by rw [← HLEN.out]; exact ha), ← HLEN.out]
  have HCL : Hid (∀ w2, Below w.heap.size w w2 → l.length ≤ 1048576 → Calls Tryz.prog 74 #[.slice A0 l.length c0'] w2 (IsL1 yK l w2)) := fun w2 hb h20 => by
    have hv2 := HV.out.below_ hb HBB.out
    rw [ev] at hv2
    exact pbclone_any _ l B w2 hv2 (Nat.le_trans HBB.out hb.size) (by omega)
  have HNX : Hid (∀ w2, Below w.heap.size w w2 → Turned fp.M w w2) := fun w2 hb => (Turned.of_below hb).mono fun k hk h => absurd hk (by omega)
  have HC : Hid (∀ w', Below w.heap.size w w' → w'.cell? ⟨b, 0, none⟩ = some (.int .i64 (t.room : Nat))) := fun w' hb' => (hb'.cell (p := ⟨b, 0, none⟩) hbl).trans c0
  have wr1 : IntKind.i64.wrap ((a : Int) - (a8 : Int)) = (a : Int) - (a8 : Int) := by rw [IntKind.wrap_i64]; omega
  have wr2 : IntKind.i64.wrap ((a : Int) - (a8 : Int) + (l.length : Int)) = (a : Int) - (a8 : Int) + (l.length : Int) := by rw [IntKind.wrap_i64]; omega
  have ws : IntKind.i64.wrap ((t.room : Int) - (U : Int)) = (t.room : Int) - (U : Int) := by rw [IntKind.wrap_i64]; omega
  have HD0 := Lib.hid (show PDisk w fp t b from ⟨_, _, _, _, _, _, _, h⟩)
  subst ev
  obtain ⟨Z, hZ⟩ : ∃ Z, Sf.add t n ⟨false, a, l⟩ = Z := ⟨_, rfl⟩
  rw [hZ] at HDO HE0
  obtain ⟨g, hg0⟩ : ∃ g : Int, (a : Int) - (a8 : Int) + (l.length : Int) = g := ⟨_, rfl⟩
  rw [hg0] at wr2
  have HCU2 : Hid (∀ w', Below w.heap.size w w' → Calls Tryz.prog 42 #[.pointer (some ⟨b, 0, none⟩)] w' (IsNum U w')) := fun w' hb => by
    rw [← hU]; exact pused_disk (HH.out.below hb) (Nat.zero_le _)
  clear h hf hx hX hB hc1 hc2 hxm hm hU hZ hg hn hxc hbl CU
  by_cases hgt : 0 < g
  · have hd0 : decide (0 < g) = true := decide_eq_true hgt
    by_cases hfull : (t.room : Int) - (U : Int) < g
    · have HE : Hid (Sf.layOf t n a l = (9, t)) := HE0.out.trans (if_pos (by omega))
      clear HE0 HDO HDN HCL
      go_enter Tryz.func71, Tryz.ntmps71
      have s0 := HC.out w.drew (Below.refl _ _).drew
      have CU2 := Lib.hid (HCU2.out w.drew (Below.refl _ _).drew)
      go_wp2
      try rw [hg0]
      go_region_held3 (fun w' => w'.cell? ⟨b, 0, none⟩ = some (.int .i64 (t.room : Nat)))
        (first | exact s0 | exact s1)
        (first | (go_at_call 42; (with_reducible refine CU2.out.mono ?_); rintro en w9 ⟨rfl, hb9⟩; have HB9 := Lib.hid ((Below.refl w.heap.size w).drew.trans hb9); have s1 := HC.out w9 ((Below.refl w.heap.size w).drew.trans hb9); clear hb9))
      clear s0 s1 CU2
      go_wp2
      go_ret
      rw [HE.out]
      exact ⟨rfl, fp, pdisk_law.below HD0.out HB9.out, Fp.Next.refl _ _, HNX.out _ HB9.out⟩
    · have HE : Hid (Sf.layOf t n a l = Z) := HE0.out.trans (if_neg (by omega))
      have HL20 : Hid (l.length ≤ 1048576) := by unfold Hid; omega
      have HDL : Hid ((Sf.done (Sf.now (Sf.fileAt t n)) ⟨false, a, l⟩).length ≤ 1048576) := by unfold Hid; rw [HDN.out]; omega
      clear HE0 HDN
      go_enter Tryz.func71, Tryz.ntmps71
      have s0 := HC.out w.drew (Below.refl _ _).drew
      have CU2 := Lib.hid (HCU2.out w.drew (Below.refl _ _).drew)
      go_wp2
      try rw [hg0]
      go_region_held3 (fun w' => w'.cell? ⟨b, 0, none⟩ = some (.int .i64 (t.room : Nat)))
        (first | exact s0 | exact s1)
        (first | (go_at_call 42; (with_reducible refine CU2.out.mono ?_); rintro en w9 ⟨rfl, hb9⟩; have HB9 := Lib.hid ((Below.refl w.heap.size w).drew.trans hb9); have s1 := HC.out w9 ((Below.refl w.heap.size w).drew.trans hb9); clear hb9))
      clear s0 s1 CU2
      have CC := Lib.hid (HCL.out w9 HB9.out HL20.out)
      go_wp2_with fail
      refine CC.out.mono ?_
      rintro e4 w4 ⟨A4, c4, rfl, ho4, hb4⟩
      have hB4 := HB9.out.trans (hb4.mono HB9.out.size)
      have CD := Lib.hid (HDO.out w4 hB4 A4 c4 (ho4.mono_ HB9.out.size) HL20.out HDL.out)
      have HB4 := Lib.hid hB4
      clear CC ho4 hb4 hB4 HDO HCL
      go_wp2_with fail
      refine CD.out.mono ?_
      rintro e6 w6 ⟨rfl, f', hD, hN, hT⟩
      have H1 := Lib.hid hD
      have H2 := Lib.hid hN
      have H3 := Lib.hid hT
      clear CD hD hN hT
      go_wp2
      go_ret
      rw [HE.out]
      exact ⟨rfl, f', H1.out, H2.out, (HNX.out _ HB4.out).trans H3.out (fun k _ h => h)⟩
  · have hd0 : decide (0 < g) = false := decide_eq_false hgt
    have HE : Hid (Sf.layOf t n a l = Z) := HE0.out.trans (if_neg (by omega))
    have HL20 : Hid (l.length ≤ 1048576) := by unfold Hid; omega
    have HDL : Hid ((Sf.done (Sf.now (Sf.fileAt t n)) ⟨false, a, l⟩).length ≤ 1048576) := by unfold Hid; rw [HDN.out]; omega
    clear HE0 HDN
    go_enter Tryz.func71, Tryz.ntmps71
    have s0 := HC.out w.drew (Below.refl _ _).drew
    go_wp2
    try rw [hg0]
    go_quiet (fail)
    clear s0
    generalize hW9 : w.drewN _ = w9
    have HB9 : Hid (Below w.heap.size w w9) := by unfold Hid; rw [← hW9]; exact below_drewN (Below.refl _ _) _
    clear hW9
    have CC := Lib.hid (HCL.out w9 HB9.out HL20.out)
    go_wp2_with fail
    refine CC.out.mono ?_
    rintro e4 w4 ⟨A4, c4, rfl, ho4, hb4⟩
    have hB4 := HB9.out.trans (hb4.mono HB9.out.size)
    have CD := Lib.hid (HDO.out w4 hB4 A4 c4 (ho4.mono_ HB9.out.size) HL20.out HDL.out)
    have HB4 := Lib.hid hB4
    clear CC ho4 hb4 hB4 HDO HCL
    go_wp2_with fail
    refine CD.out.mono ?_
    rintro e6 w6 ⟨rfl, f', hD, hN, hT⟩
    have H1 := Lib.hid hD
    have H2 := Lib.hid hN
    have H3 := Lib.hid hT
    clear CD hD hN hT
    go_wp2
    go_ret
    rw [HE.out]
    exact ⟨rfl, f', H1.out, H2.out, (HNX.out _ HB4.out).trans H3.out (fun k _ h => h)⟩
end
end Go.Proofs.YtmcbjcbnckpfkaaGreat
namespace Go.Proofs.YtmcbjcbnckpfkaaGreat
open Go.RowKit
set_option linter.unusedVariables false
section
variable {w : World} {fp : Fp} {t : Sf.St} {b : Nat}
set_option maxHeartbeats 2000000 in
set_option maxRecDepth 100000 in
theorem pappend_any (h : PDisk w fp t b) (hf : Sf.Few t) (s : ByteArray) (hs : s.size ≤ maxLen) (v : Value) (B : Nat) (l : List Nat) (hv : Lv yK w B v l) (hB : B ≤ w.heap.size) (hM : 0 < l.length → ∀ k, v.ownBlock = some k → ¬ fp.M k) :
    Calls Tryz.prog 21 #[.pointer (some ⟨b, 0, none⟩), .string s, v] w (IsDeed PDisk fp b (Sf.append t s l) w) := by
  have HD := Lib.hid h
  obtain ⟨who, bf, bs, bn, vr, ff, rn, h⟩ := h
  have CF := Lib.hid (pfind_disk h s hs)
  have c1 : w.cell? ⟨b, 1, none⟩ = some (.map (some bf)) := h.cell rfl
  obtain ⟨k, er, hge⟩ : ∃ k er, Sf.get t s = (k, er) := ⟨_, _, rfl⟩
  have HE0 : Hid (Sf.append t s l = if er ≠ 0 then (er, t) else if 0 < l.length ∧ t.room < Sf.used t + l.length then (9, t) else Sf.add t k ⟨false, Sf.len t k, l⟩) := by unfold Hid Sf.append; rw [hge]
  rw [hge] at CF
  obtain ⟨A0, c0, ev, _, _, _, _⟩ := id hv
  by_cases he : er = 0
  · subst he
    have HE : Hid (Sf.append t s l = Sf.layOf t k (Sf.len t k) l) := by
      unfold Hid
      rw [HE0.out, if_neg (by simp)]
      unfold Sf.layOf
      by_cases hc : 0 < l.length ∧ t.room < Sf.used t + l.length
      · rw [if_pos hc, if_pos (by omega)]
      · rw [if_neg hc, if_neg (by omega)]
    obtain ⟨x, _, _, _, hn, _, _, _, hlk⟩ := h.look (Nat.zero_le _) hge
    have CL := Lib.hid (play_disk h hf hge (Sf.len t k) (Nat.le_refl _) v B l hv hB)
    obtain ⟨⟨a1, a2, a3⟩, ⟨a4, a5, a6⟩, ⟨a7, a8, a9⟩⟩ := x
    simp only [slV] at hn hlk
    have hfd := fun w => file_now (.slice a1 a2 a3) (.slice a4 a5 a6) (.slice a7 a8 a9) w
    obtain ⟨m, hm⟩ : ∃ m, Sf.len t k = m := ⟨_, rfl⟩
    rw [hm] at hn HE CL
    subst hn
    subst ev
    clear h hge hm HE0 hv
    go_enter Tryz.func21, Tryz.ntmps21
    go_wp2_with fail
    refine CF.out.mono ?_
    rintro e1 w1 ⟨rfl, rfl⟩
    clear CF
    go_wp2_with fail
    refine CL.out.mono ?_
    rintro e6 w6 ⟨rfl, f', hD, hN, hT⟩
    have H1 := Lib.hid hD
    have H2 := Lib.hid hN
    have H3 := Lib.hid hT
    clear CL hD hN hT
    go_wp2
    go_ret
    rw [HE.out]
    exact ⟨rfl, f', H1.out, H2.out, H3.out⟩
  · have hq : ((er : Int) != 0) = true := by rw [bne_iff_ne]; omega
    have HE : Hid (Sf.append t s l = (er, t)) := HE0.out.trans (if_pos he)
    subst ev
    clear h hge HE0 he c1 hf hv
    go_enter Tryz.func21, Tryz.ntmps21
    go_wp2_with fail
    refine CF.out.mono ?_
    rintro e1 w1 ⟨rfl, rfl⟩
    clear CF
    go_wp2
    go_ret
    rw [HE.out]
    exact ⟨rfl, fp, HD.out, Fp.Next.refl _ _, Turned.refl _ _⟩
set_option maxHeartbeats 2000000 in
set_option maxRecDepth 100000 in
theorem pwrite_any (h : PDisk w fp t b) (hf : Sf.Few t) (s : ByteArray) (hs : s.size ≤ maxLen) (a : Int) (ha : I64 a) (v : Value) (B : Nat) (l : List Nat) (hv : Lv yK w B v l) (hB : B ≤ w.heap.size) (hM : 0 < l.length → ∀ k, v.ownBlock = some k → ¬ fp.M k) :
    Calls Tryz.prog 25 #[.pointer (some ⟨b, 0, none⟩), .string s, .int .i64 a, v] w (IsDeed PDisk fp b (Sf.write t s a l) w) := by
  have HD := Lib.hid h
  obtain ⟨who, bf, bs, bn, vr, ff, rn, h⟩ := h
  have CF := Lib.hid (pfindPlace_disk h (Nat.zero_le _) s hs a)
  obtain ⟨k, er, hge⟩ : ∃ k er, Sf.get t s = (k, er) := ⟨_, _, rfl⟩
  have HE0 : Hid (Sf.write t s a l = if er ≠ 0 then (er, t) else if a < 0 ∨ (Sf.len t k : Int) < a then (2, t) else Sf.layOf t k a.toNat l) := by unfold Hid Sf.write; rw [hge]; rfl
  have HP0 : Hid (Sf.placeOf t s a = if er ≠ 0 then (0, er) else if a < 0 ∨ (Sf.len t k : Int) < a then (0, 2) else (k, 0)) := by unfold Hid Sf.placeOf; rw [hge]
  obtain ⟨A0, c0, ev, _, _, _, _⟩ := id hv
  by_cases hgood : er = 0 ∧ ¬ (a < 0 ∨ (Sf.len t k : Int) < a)
  · obtain ⟨he, hno⟩ := hgood
    subst he
    have HE : Hid (Sf.write t s a l = Sf.layOf t k a.toNat l) := HE0.out.trans ((if_neg (by simp)).trans (if_neg hno))
    have hP : Sf.placeOf t s a = (k, 0) := HP0.out.trans ((if_neg (by simp)).trans (if_neg hno))
    rw [hP] at CF
    obtain ⟨p, rfl⟩ : ∃ p : Nat, (p : Int) = a := ⟨a.toNat, by omega⟩
    rw [Int.toNat_natCast] at HE
    have CL := Lib.hid (play_disk h hf hge p (by omega) v B l hv hB)
    subst ev
    clear h hge HE0 hv HP0 hP hno
    go_enter Tryz.func25, Tryz.ntmps25
    go_wp2_with fail
    refine CF.out.mono ?_
    rintro e1 w1 ⟨rfl, rfl⟩
    clear CF
    go_wp2_with fail
    refine CL.out.mono ?_
    rintro e6 w6 ⟨rfl, f', hD, hN, hT⟩
    have H1 := Lib.hid hD
    have H2 := Lib.hid hN
    have H3 := Lib.hid hT
    clear CL hD hN hT
    go_wp2
    go_ret
    rw [HE.out]
    exact ⟨rfl, f', H1.out, H2.out, H3.out⟩
  · obtain ⟨q, hq0, hP, hE⟩ : ∃ q : Nat, q ≠ 0 ∧ Sf.placeOf t s a = (0, q) ∧ Sf.write t s a l = (q, t) := by
      by_cases he : er = 0
      · have hor : a < 0 ∨ (Sf.len t k : Int) < a := Classical.byContradiction fun h => hgood ⟨he, h⟩
        exact ⟨2, by decide, HP0.out.trans ((if_neg (by simp [he])).trans (if_pos hor)), HE0.out.trans ((if_neg (by simp [he])).trans (if_pos hor))⟩
      · exact ⟨er, he, HP0.out.trans (if_pos he), HE0.out.trans (if_pos he)⟩
    have hq : ((q : Int) != 0) = true := by rw [bne_iff_ne]; omega
    rw [hP] at CF
    have HE := Lib.hid hE
    subst ev
    clear h hge HE0 hf hv HP0 hP hE hgood hq0
    go_enter Tryz.func25, Tryz.ntmps25
    go_wp2_with fail
    refine CF.out.mono ?_
    rintro e1 w1 ⟨rfl, rfl⟩
    clear CF
    go_wp2
    go_ret
    rw [HE.out]
    exact ⟨rfl, fp, HD.out, Fp.Next.refl _ _, Turned.refl _ _⟩
set_option maxHeartbeats 2000000 in
set_option maxRecDepth 100000 in
theorem pcut_any (h : PDisk w fp t b) (hf : Sf.Few t) (s : ByteArray) (hs : s.size ≤ maxLen) (a : Int) (ha : I64 a) :
    Calls Tryz.prog 26 #[.pointer (some ⟨b, 0, none⟩), .string s, .int .i64 a] w (IsDeed PDisk fp b (Sf.cut t s a) w) := by
  have HD := Lib.hid h
  obtain ⟨who, bf, bs, bn, vr, ff, rn, h⟩ := h
  have CF := Lib.hid (pfindPlace_disk h (Nat.zero_le _) s hs a)
  obtain ⟨k, er, hge⟩ : ∃ k er, Sf.get t s = (k, er) := ⟨_, _, rfl⟩
  have HE0 : Hid (Sf.cut t s a = if er ≠ 0 then (er, t) else if a < 0 ∨ (Sf.len t k : Int) < a then (2, t) else Sf.add t k ⟨true, a.toNat, []⟩) := by unfold Hid Sf.cut; rw [hge]
  have HP0 : Hid (Sf.placeOf t s a = if er ≠ 0 then (0, er) else if a < 0 ∨ (Sf.len t k : Int) < a then (0, 2) else (k, 0)) := by unfold Hid Sf.placeOf; rw [hge]
  by_cases hgood : er = 0 ∧ ¬ (a < 0 ∨ (Sf.len t k : Int) < a)
  · obtain ⟨he, hno⟩ := hgood
    subst he
    have HE : Hid (Sf.cut t s a = Sf.add t k ⟨true, a.toNat, []⟩) := HE0.out.trans ((if_neg (by simp)).trans (if_neg hno))
    have hP : Sf.placeOf t s a = (k, 0) := HP0.out.trans ((if_neg (by simp)).trans (if_neg hno))
    rw [hP] at CF
    obtain ⟨p, rfl⟩ : ∃ p : Nat, (p : Int) = a := ⟨a.toNat, by omega⟩
    rw [Int.toNat_natCast] at HE
    obtain ⟨x, q1, q2, q3⟩ := h.file_of hge
    have hpl : p ≤ (Sf.now (Sf.fileAt t k)).length := by have : Sf.len t k = (Sf.now (Sf.fileAt t k)).length := rfl; omega
    have CL := Lib.hid (pdoToFile_disk h hf q2 q1 q3 ⟨p, ⟨none, 0, 0⟩, true⟩ [] (bl := w.heap.size) (Lv.nil_ _ _ _) (Nat.le_refl _) w.heap.size (Nat.le_refl _) (fun h => by simp at h) hpl (by simp) (fun _ => rfl) (by
      show (Sf.done _ ⟨true, p, []⟩).length ≤ _
      rw [Sf.done_len_cut hpl]
      have := q3.len_le
      omega))
    change Hid (Calls _ _ #[.pointer (some ⟨b, 0, none⟩), .int .i64 (k : Nat), .agg #[.int .i64 (p : Nat), .slice none 0 0, .bool true]] w _) at CL
    clear h hge HE0 HP0 hP hno q1 q2 q3
    go_enter Tryz.func26, Tryz.ntmps26
    go_wp2_with fail
    refine CF.out.mono ?_
    rintro e1 w1 ⟨rfl, rfl⟩
    clear CF
    go_wp2_with fail
    refine CL.out.mono ?_
    rintro e6 w6 ⟨rfl, f', hD, hN, hT⟩
    have H1 := Lib.hid hD
    have H2 := Lib.hid hN
    have H3 := Lib.hid hT
    clear CL hD hN hT
    go_wp2
    go_ret
    rw [HE.out]
    exact ⟨rfl, f', H1.out, H2.out, H3.out⟩
  · obtain ⟨q, hq0, hP, hE⟩ : ∃ q : Nat, q ≠ 0 ∧ Sf.placeOf t s a = (0, q) ∧ Sf.cut t s a = (q, t) := by
      by_cases he : er = 0
      · have hor : a < 0 ∨ (Sf.len t k : Int) < a := Classical.byContradiction fun h => hgood ⟨he, h⟩
        exact ⟨2, by decide, HP0.out.trans ((if_neg (by simp [he])).trans (if_pos hor)), HE0.out.trans ((if_neg (by simp [he])).trans (if_pos hor))⟩
      · exact ⟨er, he, HP0.out.trans (if_pos he), HE0.out.trans (if_pos he)⟩
    have hq : ((q : Int) != 0) = true := by rw [bne_iff_ne]; omega
    rw [hP] at CF
    have HE := Lib.hid hE
    clear h hge HE0 hf HP0 hP hE hgood hq0
    go_enter Tryz.func26, Tryz.ntmps26
    go_wp2_with fail
    refine CF.out.mono ?_
    rintro e1 w1 ⟨rfl, rfl⟩
    clear CF
    go_wp2
    go_ret
    rw [HE.out]
    exact ⟨rfl, fp, HD.out, Fp.Next.refl _ _, Turned.refl _ _⟩
end
end Go.Proofs.YtmcbjcbnckpfkaaGreat
namespace Go.Proofs.YtmcbjcbnckpfkaaGreat
open Go.RowKit
set_option linter.unusedVariables false
namespace Sf
def has (d : Dir) (i : Int) : Bool := d.any fun e => decide ((e.2 : Int) = i)
theorem has_iff {d : Dir} {i : Int} : has d i = true ↔ ∃ e ∈ d, (e.2 : Int) = i := by
  unfold has
  rw [List.any_eq_true]
  simp
theorem has_perm {d e : Dir} (h : d.Perm e) (i : Int) : has d i = has e i := by
  rw [Bool.eq_iff_iff, has_iff, has_iff]
  exact ⟨fun ⟨x, hx, hi⟩ => ⟨x, h.mem_iff.1 hx, hi⟩, fun ⟨x, hx, hi⟩ => ⟨x, h.mem_iff.2 hx, hi⟩⟩
end Sf
/-- Of the files those that a directory has. -/
def restr (ff : Int → Option RawX) (d : Sf.Dir) (i : Int) : Option RawX := if Sf.has d i then ff i else none
theorem restr_cons {ff : Int → Option RawX} {d : Sf.Dir} {s : ByteArray} {n : Nat} {x : RawX} (h : ff (n : Int) = some x) : restr ff ((s, n) :: d) = fun i => if i = (n : Int) then some x else restr ff d i := by
  funext i
  unfold restr Sf.has
  rw [List.any_cons]
  by_cases e : i = (n : Int)
  · subst e
    simp [h]
  · have : decide ((n : Int) = i) = false := by simpa using fun e2 => e e2.symm
    rw [if_neg e]
    simp only [this, Bool.false_or]
theorem restr_perm {ff : Int → Option RawX} {d e : Sf.Dir} (h : d.Perm e) : restr ff d = restr ff e := by
  funext i
  unfold restr
  rw [Sf.has_perm h]
theorem restr_nil (ff : Int → Option RawX) : restr ff [] = fun _ => none := by
  funext i
  simp [restr, Sf.has]
theorem makeMap_hint {t k e : TypeId} (ht : Tryz.prog.underlying t = some (.map k e)) (q : IntKind) (n : Int) (w : World) : (Instr.makeMap t (some (.int q n))).run Tryz.prog w = .ok (.map (some w.heap.size)) (w.alloc (.map #[] 0)) := by
  simp [Instr.makeMap, run_underlying ht, asInt, asIntOf, Result.andThen]
section
variable {w w' : World} {fp : Fp} {s : Nat} {t : Sf.St} {b : Nat} {who who' : Who} {bf bs bn : Nat} {vr : Sl} {ff : Int → Option RawX} {rn : List RawN} {F : Nat → Prop}
theorem PBody.sync_dir (h : PBody w who 0 t bf bs bn vr ff rn) {g q : Nat} (hm : More who who') (hT : Turned F w w') (hF : ∀ k, F k → who k = none ∨ who k = some .head)
    (hmap : IsMp fM w' g (64 + t.acts + 0) (restr ff t.seen)) (hs : IsMp dM w' q (64 + t.acts + 0) (Sf.dirF t.seen)) (hg : who' g = some .files) (hq : who' q = some .sure) :
    PBody w' who' 0 { t with sure := t.seen, row := [] } g q bn ⟨none, 0, 0⟩ (restr ff t.seen) [] := by
  have hB := h.turned hT hF
  refine ⟨hmap, hB.names, hs, OwnL.nil_ _ _ _, rfl, rfl, fun _ => rfl, fun i x hx => ?_, fun n hn => ?_, hg, hm _ _ h.namesW, hq, Bears.nil_ _ _⟩
  · unfold restr at hx
    split at hx
    · obtain ⟨n, f, h1, h2, h3⟩ := hB.file i x hx
      exact ⟨n, f, h1, h2, h3.more hm⟩
    · cases hx
  · obtain ⟨d, hd, e, he, rfl⟩ := hn
    have hin : e ∈ t.seen := by
      rcases hd with hd | hd | hd
      · rw [hd] at he; exact he
      · rw [hd] at he; exact he
      · cases hd
    unfold restr
    rw [if_pos (Sf.has_iff.2 ⟨e, hin, rfl⟩)]
    exact h.there _ ⟨t.seen, .inr (.inl rfl), e, hin, rfl⟩
theorem GoodS.sync_dir (h : GoodS 0 t) : GoodS 0 { t with sure := t.seen, row := [] } :=
  ⟨h.room, h.files, Nat.zero_le _, h.acts, h.fuse, h.seen, h.seen, (fun d hd => by cases hd), (fun d hd => by
    have hl := h.lens t.seen (.inr (.inl rfl))
    rcases hd with hd | hd | hd
    · rw [hd]; exact hl
    · rw [hd]; exact hl
    · cases hd), h.nums, h.frow⟩
set_option maxHeartbeats 4000000 in
set_option maxRecDepth 100000 in
theorem psyncDir_any (h : PDisk w fp t b) (hf : Sf.Few t) : Calls Tryz.prog 23 #[.pointer (some ⟨b, 0, none⟩)] w (IsDeed PDisk fp b (Sf.syncDir t) w) := by
  have HD := Lib.hid h
  obtain ⟨who, bf, bs, bn, vr, ff, rn, h⟩ := h
  have CR := Lib.hid (prefusal_disk h)
  have CA := Lib.hid (pact_disk h.mono hf)
  have HH := Lib.hid h
  cases hd : t.dead with
  | true =>
    have HE : Hid (Sf.syncDir t = (13, t)) := if_pos hd
    rw [hd] at CR
    clear h hf hd CA
    go_enter Tryz.func23, Tryz.ntmps23
    go_wp2_with fail
    refine CR.out.mono ?_
    rintro e1 w1 ⟨rfl, rfl⟩
    clear CR
    go_wp2
    go_ret
    rw [HE.out]
    exact ⟨rfl, fp, HD.out, Fp.Next.refl _ _, Turned.refl _ _⟩
  | false =>
    have HE0 : Hid (Sf.syncDir t = if (Sf.blown t).1 ≠ 0 then Sf.blown t else (0, { (Sf.blown t).2 with sure := t.seen, row := [] })) := if_neg (by rw [hd]; simp)
    have hse := (pblown_same t).2.2.1
    rw [hd] at CR
    obtain ⟨er, u, hbl⟩ : ∃ er u, Sf.blown t = (er, u) := ⟨_, _, rfl⟩
    rw [hbl] at CA HE0 hse
    simp only at CA HE0 hse
    rw [← hse] at HE0
    clear hbl hse hd h hf
    by_cases he : er = 0
    · subst he
      have HE := Lib.hid (HE0.out.trans (if_neg (by simp)))
      clear HE0
      have hmk := fun q n w => makeMap_hint Tryz.underlying77 q n w
      go_enter Tryz.func23, Tryz.ntmps23
      go_wp2_with fail
      refine CR.out.mono ?_
      rintro e1 w1 ⟨rfl, rfl⟩
      clear CR
      go_wp2_with fail
      refine CA.out.mono ?_
      rintro e1 w1 ⟨rfl, h1, hT1⟩
      clear CA
      have HP1 := Lib.hid h1
      have HT1 := Lib.hid hT1
      have c5 : w1.cell? ⟨b, 5, none⟩ = some (.map (some bn)) := h1.cell rfl
      have hb1 : b < w1.heap.size := h1.lt b (by rw [h1.mine]; rfl)
      have CM := Lib.hid (pmclone_any bn _ _ w1 h1.body.names)
      clear h1 hT1
      go_wp2_with fail
      refine CM.out.mono ?_
      rintro e2 w2 ⟨rfl, hm2, hb2, hs2⟩
      have HM2 := Lib.hid hm2
      have HB2 := Lib.hid hb2
      have HS2 := Lib.hid hs2
      have HP2 := Lib.hid (HP1.out.below hb2)
      clear CM hm2 hb2 hs2 c5
      -- the stores
      have d3 : w2.cell? ⟨b, 3, none⟩ = some (.map (some bs)) := HP2.out.cell rfl
      have z3 : w2.frozen? ⟨b, 3, none⟩ = false := frozen_of_row w2 b 3 _ _ HP2.out.head
      have hh3 := head_setP HP2.out.head 3 (.map (some w1.heap.size)) (C' := headP u bf w1.heap.size bn vr) rfl
      have hT3 : Turned (fun k => k = b) w2 (w2.setCell ⟨b, 3, none⟩ (.map (some w1.heap.size))) := Turned.setCell (F := fun k => k = b) (Turned.refl (fun k => k = b) w2) (p := ⟨b, 3, none⟩) (fun _ => rfl) _
      obtain ⟨w3, hw3⟩ : ∃ w3, w2.setCell ⟨b, 3, none⟩ (.map (some w1.heap.size)) = w3 := ⟨_, rfl⟩
      rw [hw3] at hh3 hT3
      have d4 : w3.cell? ⟨b, 4, none⟩ = some (slV vr) := head_cellP hh3 rfl
      have z4 : w3.frozen? ⟨b, 4, none⟩ = false := frozen_of_row w3 b 4 _ _ hh3
      have hh4 := head_setP hh3 4 (.slice none 0 0) (C' := headP u bf w1.heap.size bn ⟨none, 0, 0⟩) rfl
      have hT4 : Turned (fun k => k = b) w2 (w3.setCell ⟨b, 4, none⟩ (.slice none 0 0)) := Turned.setCell (F := fun k => k = b) hT3 (p := ⟨b, 4, none⟩) (fun _ => rfl) _
      obtain ⟨w4, hw4⟩ : ∃ w4, w3.setCell ⟨b, 4, none⟩ (.slice none 0 0) = w4 := ⟨_, rfl⟩
      rw [hw4] at hh4 hT4
      have HH4 := Lib.hid hh4
      have HT4 := Lib.hid hT4
      obtain ⟨vA, vn, vc⟩ := vr
      simp only [slV] at d4
      have e5 : w4.cell? ⟨b, 5, none⟩ = some (.map (some bn)) := head_cellP hh4 rfl
      have hlen4 : IsMp dM w4 bn (64 + u.acts + 0) (Sf.dirF u.seen) := HP2.out.body.names.turned_ hT4 (fun e => by have h1 := HP2.out.body.namesW; rw [e, HP2.out.mine] at h1; cases h1)
      have hl4 := dir_len hlen4 HP2.out.good.seen 3
      have HL4 := Lib.hid hlen4
      clear hh3 hT3 hh4 hT4 hlen4
      -- the new map
      obtain ⟨w5, hw5⟩ : ∃ w5, w4.alloc (.map #[] 0) = w5 := ⟨_, rfl⟩
      have hM5 : IsMp fM w5 w4.heap.size 0 (fun _ => none) := by rw [← hw5]; exact IsMp.made fM w4
      have hT5 : Turned (fun _ => False) w4 w5 := by rw [← hw5]; exact (Turned.refl _ _).alloc _
      have hs5 : w5.heap.size = w4.heap.size + 1 := by rw [← hw5]; simp
      have hN5 := HL4.out.turned_ hT5 (fun h => h)
      have HHS : Hid (IsHead w5 b (headP u bf w1.heap.size bn ⟨none, 0, 0⟩)) := (hT5.block b (by have := HT4.out.size; have := HB2.out.size; omega) (fun h => h)).trans HH4.out
      have g5 : w5.cell? ⟨b, 5, none⟩ = some (.map (some bn)) := head_cellP HHS.out rfl
      have HM5 := Lib.hid hM5
      have HT5 := Lib.hid hT5
      have HN5 := Lib.hid hN5
      have HS5 := Lib.hid hs5
      obtain ⟨g, hg⟩ : ∃ g, w4.heap.size = g := ⟨_, rfl⟩
      rw [hg] at HM5 HS5
      have HG : Hid (w4.heap.size = g) := hg
      have HBF : Hid (IsMp fM w5 bf (64 + u.acts + 0) ff) := (HP2.out.body.files.turned_ HT4.out (fun e => by have h1 := HP2.out.body.filesW; rw [e, HP2.out.mine] at h1; cases h1)).turned_ hT5 (fun h => h)
      clear hM5 hT5 hN5 hs5
      go_wp2_with (at_range; refine wpList_range_mp _ dM rfl _ rfl bn _ _ rfl HN5.out ?_; intro w6 cnt0 hrg0 hcnt hg0 hs0)
      go_frame
      have HR0 := Lib.hid hrg0
      have HCN := Lib.hid hcnt
      have HB6 : Hid (Below w5.heap.size w5 w6) := (Below.refl w5.heap.size w5).grown hg0 (Nat.le_refl _) (fun j hj => by cases hj)
      have HM6 := Lib.hid (HM5.out.of_block (hg0.block g (by have := HS5.out; omega) (by simp)))
      have HG6 : Hid (w6.heap.size = w5.heap.size + 1) := hs0
      have HB6g : Hid (Turned (fun k => g ≤ k) w5 w6) := (Turned.of_grown hg0).mono fun k _ h => by cases h
      clear hrg0 hcnt hg0 hs0 d3 z3 hw3 d4 z4 hw4 e5 hl4 hw5 g5 hmk hg
      have HBG : Hid (b < g ∧ bf < g ∧ bn < g ∧ w1.heap.size < g) := by
        have h1 := HP2.out.lt b (by rw [HP2.out.mine]; rfl)
        have h2 := HP2.out.body.files.lt_
        have h3 := HP2.out.body.names.lt_
        have h4 := HT4.out.size
        have h5 := HG.out
        have h6 := HS2.out
        exact ⟨by omega, by omega, by omega, by omega⟩
      have HRD : Hid (∀ wr, Turned (fun k => g ≤ k) w5 wr → wr.cell? ⟨b, 1, none⟩ = some (.map (some bf)) ∧ IsMp fM wr bf (64 + u.acts + 0) ff) := fun wr ht => ⟨head_cellP ((ht.block b (by have := HBG.out; have := HS5.out; omega) (by have := HBG.out; omega)).trans HHS.out) rfl, HBF.out.turned_ ht (by have := HBG.out; omega)⟩
      have HFA : Hid (∀ e ∈ u.seen, ∃ x, ff (e.2 : Int) = some x ∧ e.2 < 9223372036854775807) := fun e he => by
        obtain ⟨x, h1, h2, _⟩ := HP2.out.file_at (n := e.2) ⟨u.seen, .inr (.inl rfl), e, he, rfl⟩
        have h3 := HP2.out.good.files
        have h4 := HP2.out.good.acts
        exact ⟨x, h1, by omega⟩
      have HOK := Lib.hid HP2.out.good.seen
      have HAC := Lib.hid HP2.out.good.acts
      go_loopw [7] (fun _ wr => ∃ (L : ByteArray → Bool) (cnt : Nat), Hid (IsRg dM wr bn w5.heap.size (64 + u.acts + 0) (Sf.dirF u.seen) L cnt) ∧ cnt ≤ cnt0 ∧ Hid (IsMp fM wr g (cnt0 - cnt) (restr ff (Sf.passed u.seen L))) ∧ Hid (Turned (fun k => g ≤ k) w5 wr)) (fun _ wr => wr.rangeLeft bn w5.heap.size)
      case atStart =>
        refine ⟨_, cnt0, HR0.out, Nat.le_refl _, ?_, HB6g.out⟩
        rw [Sf.passed_none (fun e he => by
          unfold Sf.dirF
          rw [HOK.out.find.2 (show (e.1, e.2) ∈ u.seen from he)]
          rfl), restr_nil]
        exact HM6.out.mono_ (by omega)
      case round =>
        obtain ⟨L, cnt, HRG, hcc, HMR, HTR⟩ := hrel
        clear HR0 HM6 HB6g HB6
        go_wp2_with (at_next; refine wpList_next_dir _ rfl _ rfl bn w5.heap.size _ _ L cnt rfl HRG.out ?_ ?_)
        · intro hl0
          have hp : Sf.passed u.seen L = u.seen := Sf.passed_all fun e he => hl0 e.1 (Sf.name_max (HOK.out.name e he))
          rw [hp] at HMR
          have HCL := Lib.hid (hcc : cnt ≤ cnt0)
          have c1 := (HRD.out wr HTR.out).1
          have hhr : IsHead wr b (headP u bf w1.heap.size bn ⟨none, 0, 0⟩) := (HTR.out.block b (by have := HBG.out; have := HS5.out; omega) (by have := HBG.out; omega)).trans HHS.out
          have z1 : wr.frozen? ⟨b, 1, none⟩ = false := frozen_of_row wr b 1 _ _ hhr
          have hh9 := head_setP hhr 1 (.map (some g)) (C' := headP { u with sure := u.seen, row := [] } g w1.heap.size bn ⟨none, 0, 0⟩) rfl
          have hT9 : Turned (fun k => k = b) wr (wr.setCell ⟨b, 1, none⟩ (.map (some g))) := Turned.setCell (F := fun k => k = b) (Turned.refl (fun k => k = b) wr) (p := ⟨b, 1, none⟩) (fun _ => rfl) _
          obtain ⟨w9, hw9⟩ : ∃ w9, wr.setCell ⟨b, 1, none⟩ (.map (some g)) = w9 := ⟨_, rfl⟩
          rw [hw9] at hh9 hT9
          have HH9 := Lib.hid hh9
          have HT9 := Lib.hid hT9
          clear hhr hh9 hT9 hl0 hp hcc
          go_wp2
          go_ret
          rw [HE.out]
          have hz : b < g ∧ bf < g ∧ bn < g ∧ w1.heap.size < g := HBG.out
          have hz1 := HP1.out.lt b (by rw [HP1.out.mine]; rfl)
          have TB : Turned (fun k => k = b) w1 w9 := by
            have t1 : Turned (fun k => k = b ∨ w1.heap.size ≤ k) w1 w2 := (Turned.of_below HB2.out).mono fun k _ h => .inr h
            have t2 := t1.trans HT4.out (fun k _ h => .inl h)
            have t3 := t2.trans HT5.out (fun k _ h => h.elim)
            have t4 := t3.trans HTR.out (fun k _ h => .inr (by omega))
            have t5 := t4.trans HT9.out (fun k _ h => .inl h)
            exact t5.mono fun k hk h => h.elim id (fun h => by omega)
          obtain ⟨who', hwho⟩ : ∃ who' : Who, (fun k => if k = g then some Role.files else if k = w1.heap.size then some Role.sure else who k) = who' := ⟨_, rfl⟩
          have hmore : More who who' := fun k r hk => by
            have hlt := HP1.out.lt k (by rw [hk]; rfl)
            rw [← hwho]
            show (if k = g then some Role.files else if k = w1.heap.size then some Role.sure else who k) = some r
            rw [if_neg (by omega), if_neg (by omega), hk]
          have hwg : who' g = some .files := by rw [← hwho]; exact if_pos rfl
          have hws : who' w1.heap.size = some .sure := by rw [← hwho]; exact (if_neg (by omega)).trans (if_pos rfl)
          have hsm : ∀ k, (who' k).isSome → (who k).isSome ∨ (w1.heap.size ≤ k ∧ k ≤ g) := fun k hk => by
            rw [← hwho] at hk
            by_cases e1 : k = g
            · exact .inr ⟨by omega, by omega⟩
            · by_cases e2 : k = w1.heap.size
              · exact .inr ⟨by omega, by omega⟩
              · have hk' : (if k = g then some Role.files else if k = w1.heap.size then some Role.sure else who k).isSome := hk
                rw [if_neg e1, if_neg e2] at hk'
                exact .inl hk'
          have hg9 : g < w9.heap.size := by
            have h1 := HTR.out.size
            have h2 := HT9.out.size
            have h3 := HS5.out
            omega
          have hmap : IsMp fM w9 g (64 + u.acts + 0) (restr ff u.seen) := (HMR.out.turned_ HT9.out (by omega)).mono_ (by have := HCL.out; have := HCN.out; omega)
          have hsu : IsMp dM w9 w1.heap.size (64 + u.acts + 0) (Sf.dirF u.seen) := (((HM2.out.turned_ HT4.out (by omega)).turned_ HT5.out (fun h => h)).turned_ HTR.out (by omega)).turned_ HT9.out (by omega)
          refine ⟨rfl, fpOf who', ⟨who', g, w1.heap.size, bn, ⟨none, 0, 0⟩, restr ff u.seen, [], HH9.out, HP1.out.body.sync_dir hmore TB (fun k hk => .inr (by rw [hk]; exact HP1.out.mine)) hmap hsu hwg hws, HP1.out.good.sync_dir, hmore _ _ HP1.out.mine, fun k => Iff.rfl, fun k h => h, fun k hk => ?_⟩, ⟨fun k hk => ?_, fun k hk => hk.elim⟩, ?_⟩
          · rcases hsm k hk with h | h
            · exact Nat.lt_of_lt_of_le (HP1.out.lt k h) TB.size
            · omega
          · rcases hsm k hk with h | h
            · exact .inl ((HH.out.m k).2 h)
            · exact .inr (Nat.le_trans HT1.out.size h.1)
          · exact (turned_mine HH.out HT1.out).trans TB (fun k _ e => by rw [e]; exact (HH.out.m b).2 (by rw [HH.out.mine]; rfl))
        · intro x c w7 cnt1 hx hLx hfx hrg1 hlt hg1 hs1 hen
          obtain ⟨n, hfd, rfl⟩ : ∃ n : Nat, Sf.find u.seen x = some n ∧ (n : Int) = c := by
            unfold Sf.dirF at hfx
            obtain ⟨n, h1, h2⟩ := Option.map_eq_some_iff.1 hfx
            exact ⟨n, h1, h2⟩
          have hm := HOK.out.find.1 hfd
          obtain ⟨y, hy, hyi⟩ := HFA.out _ hm
          simp only at hy hyi
          have hb1 : Turned (fun k => g ≤ k) w5 w7 := HTR.out.trans (Turned.of_grown hg1) (fun k hk e => by have := HS5.out; have := Option.some.inj e; omega)
          obtain ⟨c1, hmp⟩ := HRD.out w7 hb1
          have hlk := look_file hmp hy hyi
          have hst := Sf.passed_step HOK.out.nodup hm hLx
          have hMR7 : IsMp fM w7 g (cnt0 - cnt) (restr ff (Sf.passed u.seen L)) := HMR.out.of_block (hg1.block g HMR.out.lt_ (fun e => by have := HS5.out; have := Option.some.inj e; omega))
          have HWF : Hid (fM.ok (n : Int)) := WalkArith.wf_i64 (by omega)
          have HMR7 := Lib.hid hMR7
          have HEQ : Hid (restr ff (Sf.passed u.seen (fun z => L z && !decide (z = x))) = fun i => if i = (n : Int) then some y else restr ff (Sf.passed u.seen L) i) := by
            unfold Hid
            rw [restr_perm hst, restr_cons hy]
          have HRG1 := Lib.hid hrg1
          have HB1 := Lib.hid hb1
          have HLT := Lib.hid hlt
          have HLE := Lib.hid HRG.out.left_eq
          have HCC := Lib.hid (hcc : cnt ≤ cnt0)
          have HC0 : Hid (cnt0 ≤ 64 + u.acts + 0) := HCN.out
          clear hst hmp hb1 hg1 hs1 hrg1 hlt hm hfd hfx hyi HRG HTR hLx hx hMR7 HMR hcc
          go_wp2_with (at_mapUpdate; refine wpList_mapUpdate_mp _ fM rfl _ _ _ rfl g _ _ rfl HMR7.out (by have := HC0.out; have := HAC.out; simp only [maxLen]; omega) (n : Int) rfl HWF.out y rfl ?_; intro w8 hm8 hg8; go_frame)
          have HRG8 := Lib.hid (HRG1.out.kept_ hg8 (fun e => by have := HBG.out; have := Option.some.inj e; omega) (fun e => by have := HS5.out; have := Option.some.inj e; omega))
          have HB8 : Hid (Turned (fun k => g ≤ k) w5 w8) := HB1.out.trans (Turned.of_grown hg8) (fun k hk e => by have := Option.some.inj e; omega)
          go_roundw
          case rel =>
            refine ⟨_, cnt1, HRG8.out, by have := HLT.out; have := HCC.out; omega, ?_, HB8.out⟩
            rw [HEQ.out]
            exact hm8.mono_ (by have := HLT.out; have := HCC.out; omega)
          case measure => rw [HRG8.out.left_eq, HLE.out]; exact HLT.out
    · have hq : ((er : Int) != 0) = true := by rw [bne_iff_ne]; omega
      have HE := Lib.hid (HE0.out.trans (if_pos he))
      clear HE0 he
      go_enter Tryz.func23, Tryz.ntmps23
      go_wp2_with fail
      refine CR.out.mono ?_
      rintro e1 w1 ⟨rfl, rfl⟩
      clear CR
      go_wp2_with fail
      refine CA.out.mono ?_
      rintro e1 w1 ⟨rfl, h1, hT1⟩
      have H1 := Lib.hid h1
      have H2 := Lib.hid hT1
      clear CA h1 hT1
      go_wp2
      go_ret
      rw [HE.out]
      exact ⟨rfl, fp, ⟨_, _, _, _, _, _, _, H1.out⟩, Fp.Next.refl _ _, turned_mine HH.out H2.out⟩
end
end Go.Proofs.YtmcbjcbnckpfkaaGreat
