/-
  RSfE: stookref14: bytes, now: a file behind its acts.
  RSfP: stookref14: Size.
  RSfQu: stookref14: Used.
-/
import Derived.Test.YtmcbjcbnckpfkaaGreatPt27
import Derived.Test.YtmcbjcbnckpfkaaGreatPt26
import Derived.Deep.MidRow
import Derived.BigRegion
import Derived.Test.YtmcbjcbnckpfkaaGreatPt28
import Derived.Deep.RegionHeld3
namespace Go.Proofs.YtmcbjcbnckpfkaaGreat
open Go.RowKit
set_option linter.unusedVariables false
theorem done_none (b : List Nat) : Sf.done b ⟨false, 0, []⟩ = b := by simp [Sf.done]
set_option maxHeartbeats 4000000 in
set_option maxRecDepth 100000 in
theorem rbytes_file (w : World) (g off B : Nat) (x : RawF) (f : Sf.File) (hg : g < w.heap.size) (hs : w.cell? ⟨g, off, none⟩ = some (slV x.sure)) (hr : w.cell? ⟨g, off + 1, none⟩ = some (slV x.row)) (hv : FileV w B x f) (hB : B ≤ w.heap.size) (ho : FileOk f) (k : Nat) (hk : k ≤ f.row.length) :
    Calls Tryz.prog 63 #[.pointer (some ⟨g, off, none⟩), .int .i64 (k : Nat)] w (IsL1 yK (Sf.bytes f k) w) := by
  have H0 := Lib.hid hv
  have HOK := Lib.hid ho
  have hkm : k ≤ 2199023255552 := Nat.le_trans hk ho.row
  obtain ⟨⟨sA, sn, sc⟩, ⟨rA, rn, rc⟩⟩ := x
  change w.cell? ⟨g, off, none⟩ = some (.slice sA sn sc) at hs
  change w.cell? ⟨g, off + 1, none⟩ = some (.slice rA rn rc) at hr
  have HCR : Hid (∀ w', Below w.heap.size w w' → w'.cell? ⟨g, off + 1, none⟩ = some (.slice rA rn rc)) := fun w' hb' => (hb'.cell (p := ⟨g, off + 1, none⟩) hg).trans hr
  have h00 := ho.len 0 (Nat.zero_le _)
  rw [Sf.bytes_zero] at h00
  have C1 := Lib.hid (rdone_any (.slice sA sn sc) f.sure B w hv.sure hB false 0 (.slice none 0 0) [] (Lv.nil_ _ _ _) (Nat.zero_le _) (by omega) (by simp))
  rw [done_none] at C1
  have hrn : rn = f.row.length ∧ rn ≤ rc ∧ rc ≤ maxLen := by
    obtain ⟨ra, h1, h2, _⟩ := hv.acts
    have := Lv.len_ (A := rA) (n := rn) (c := rc) h2
    omega
  obtain ⟨hrn, hrc, hrm⟩ := hrn
  clear hv ho h00 hr
  go_enter Tryz.func63, Tryz.ntmps63
  go_wp2_with fail
  refine C1.out.mono ?_
  rintro e1 w1 ⟨A1, c1, rfl, ho1, hb1⟩
  have HO1 := Lib.hid ho1
  have HB1 := Lib.hid hb1
  clear C1 ho1 hb1 hs
  go_wp2
  go_loopw [5, 6] (fun u i wr => ∃ (j : Nat) (A : Option Addr) (c : Nat) (y : List Nat), j ≤ k ∧ i = .int .i64 (j : Nat) ∧ u = .slice A y.length c ∧ Hid (y = Sf.bytes f j) ∧ Hid (OwnL yK wr w.heap.size (.slice A y.length c) y) ∧ Below w.heap.size w wr) (fun _ i _ => k - (intOf i).toNat)
  case atStart => exact ⟨0, A1, c1, f.sure, by omega, rfl, rfl, rfl, HO1.out, HB1.out⟩
  case round =>
    obtain ⟨j, A, c, y, hj, rfl, rfl, HE, HY, hbr⟩ := hrel
    have HBr := Lib.hid hbr
    clear hbr HO1 HB1
    by_cases hlt : j < k
    · have hji : (j : Int) < (k : Int) := by omega
      have hj0 : (0 : Int) ≤ (j : Int) := by omega
      have hjn : (j : Int) < (rn : Int) := by omega
      have hjn2 : j < rn := by omega
      have wj : IntKind.i64.wrap ((j : Int) + 1) = (j : Int) + 1 := by rw [IntKind.wrap_i64]; omega
      have hrr := HCR.out wr HBr.out
      have HV := H0.out.below_ HBr.out hB
      obtain ⟨ra, q1, q2, q3⟩ := HV.acts
      obtain ⟨b, off2, r, hA, hb, hrok, hq, hm⟩ := q2.mid_ (k := j) (by omega)
      have ha : f.row[j]? = some f.row[j] := List.getElem?_eq_getElem (by omega)
      obtain ⟨e1, e2, e3⟩ := q3 j r _ hq ha
      obtain ⟨o1, o2, o3⟩ := HOK.out.at_ j _ ha
      have HYN := HE.out
      have hyl := HOK.out.len j (by omega)
      rw [← HYN] at hyl o1
      obtain ⟨rcut, rat, ⟨slA, sln, slc⟩⟩ := r
      change wr.rangeAt b (off2 + j * 3) [.bool rcut, .int .i64 (rat : Nat), .slice slA sln slc] at hm
      have HM := Lib.hid hm
      change rA = some ⟨b, off2, none⟩ at hA
      subst hA
      have C2 := Lib.hid (rdone_any _ y wr.heap.size wr HY.out.form_ (Nat.le_refl _) f.row[j].cut f.row[j].at_ _ f.row[j].b (e3.mono_ (B' := wr.heap.size) (Nat.le_trans hB HBr.out.size)) o1 (by omega) (by omega))
      have HE2 : Hid (Sf.done y ⟨f.row[j].cut, f.row[j].at_, f.row[j].b⟩ = Sf.bytes f (j + 1)) := by unfold Hid; rw [Sf.bytes_succ ha, HYN]
      rw [HE2.out, ← e1, ← e2] at C2
      change Hid (Calls _ _ #[_, .agg #[.bool rcut, .int .i64 (rat : Nat), .slice slA sln slc]] _ _) at C2
      clear q1 q2 q3 hq ha e1 e2 e3 o1 o2 o3 hm HE HE2 hrok hb HV HYN
      go_wp2_with (refine wpList_load_mid rfl _ _ rfl b (off2 + j * 3) rfl [.bool rcut, .int .i64 (rat : Nat), .slice slA sln slc] _ HM.out Tryz.underlying101 rfl (by kernel_rfl) ?_)
      refine C2.out.mono ?_
      rintro e2 w2 ⟨A2, c2, rfl, ho2, hb2⟩
      have HO2 := Lib.hid (ho2.mono_ HBr.out.size)
      have HB2 := Lib.hid (HBr.out.trans (hb2.mono HBr.out.size))
      clear C2 ho2 hb2 hrr HM
      go_wp2
      go_roundw
      case rel => exact ⟨j + 1, A2, c2, _, by omega, by go_num, rfl, rfl, HO2.out, HB2.out⟩
      case measure => simp [intOf]; omega
    · have hji : ¬ (j : Int) < (k : Int) := by omega
      have HK : Hid (y = Sf.bytes f k) := by
        have e : j = k := by omega
        rw [← e]; exact HE.out
      clear HE
      go_wp2
      go_ret
      rw [← HK.out]
      exact ⟨A, c, rfl, HY.out, HBr.out⟩
set_option maxHeartbeats 1000000 in
set_option maxRecDepth 100000 in
theorem rnow_file (w : World) (g off B : Nat) (x : RawF) (f : Sf.File) (hg : g < w.heap.size) (hs : w.cell? ⟨g, off, none⟩ = some (slV x.sure)) (hr : w.cell? ⟨g, off + 1, none⟩ = some (slV x.row)) (hv : FileV w B x f) (hB : B ≤ w.heap.size) (ho : FileOk f) :
    Calls Tryz.prog 83 #[.pointer (some ⟨g, off, none⟩)] w (IsL1 yK (Sf.now f) w) := by
  have C := Lib.hid (rbytes_file w g off B x f hg hs hr hv hB ho f.row.length (Nat.le_refl _))
  rw [Sf.bytes_all] at C
  have hrn : x.row.n = f.row.length := by
    obtain ⟨ra, h1, h2, _⟩ := hv.acts
    have := (Lv.len_ (A := x.row.A) (n := x.row.n) (c := x.row.c) h2).1
    omega
  have hm : f.row.length ≤ 2199023255552 := ho.row
  obtain ⟨⟨sA, sn, sc⟩, ⟨rA, rn, rc⟩⟩ := x
  change w.cell? ⟨g, off + 1, none⟩ = some (.slice rA rn rc) at hr
  change rn = f.row.length at hrn
  subst hrn
  clear hs hv ho
  go_enter Tryz.func83, Tryz.ntmps83
  go_wp2_with fail
  refine C.out.mono ?_
  rintro e1 w1 ⟨A1, c1, rfl, ho1, hb1⟩
  have HO1 := Lib.hid ho1
  have HB1 := Lib.hid hb1
  clear C ho1 hb1
  go_wp2
  go_ret
  exact ⟨A1, c1, rfl, HO1.out, HB1.out⟩
end Go.Proofs.YtmcbjcbnckpfkaaGreat
namespace Go.Proofs.YtmcbjcbnckpfkaaGreat
open Go.RowKit
set_option linter.unusedVariables false
theorem get_lt {t : Sf.St} (hg : Good t) {s : ByteArray} {k : Nat} (h : Sf.get t s = (k, 0)) : k < t.files.length := by
  unfold Sf.get at h
  split at h
  · injection h with _ h; cases h
  · split at h
    · injection h with _ h; cases h
    · rename_i n hn
      injection h with h _
      subst h
      unfold Sf.find at hn
      obtain ⟨e, he, hq⟩ := Option.map_eq_some_iff.1 hn
      rw [← hq]
      exact hg.seen.2 e (List.mem_of_find?_eq_some he)
section
variable {w : World} {f : Fp} {t : Sf.St} {b : Nat} {vf vs vr vu : Value} {rf : List RawF} {rr : List Sl}
/-- Where a file of a disk lies. -/
theorem RHas.file_at (h : RHas w f t b vf vs vr vu rf rr) {k : Nat} (hk : k < t.files.length) :
    ∃ g off c x, vf = .slice (some ⟨g, off, none⟩) t.files.length c ∧ t.files.length ≤ 9223372036854775807 ∧ g < w.heap.size ∧ rf[k]? = some x ∧ w.cell? ⟨g, off + k * 2, none⟩ = some (slV x.sure) ∧ w.cell? ⟨g, off + k * 2 + 1, none⟩ = some (slV x.row) ∧ HasFile w f x (Sf.fileAt t k) := by
  have hL := h.body.files.form_
  obtain ⟨A, c, e, hc1, hc2, _, _⟩ := hL
  subst e
  have hL := h.body.files.form_
  have hk' : k < rf.length := by rw [h.body.nfiles]; exact hk
  obtain ⟨g, off, x, rfl, hg, _, hx, hc⟩ := hL.at_ hk'
  refine ⟨g, off, c, x, by rw [h.body.nfiles], ?_, hg, hx, hc 0 _ rfl, hc 1 _ rfl, ?_⟩
  · have := h.body.nfiles
    simp only [maxLen] at hc2
    omega
  · have e : t.files[k]? = some (Sf.fileAt t k) := by unfold Sf.fileAt; simp [List.getElem?_eq_getElem hk]
    exact h.body.file k x _ hx e
end
section
variable {w : World} {f : Fp} {t : Sf.St} {b : Nat}
set_option maxHeartbeats 2000000 in
set_option maxRecDepth 100000 in
theorem rsize_disk (h : RDiskM w f t b) (s : ByteArray) : Calls Tryz.prog 52 #[.pointer (some ⟨b, 0, none⟩), .string s] w (IsNE (Sf.size t s) w) := by
  obtain ⟨vf, vs, vr, vu, rf, rr, h⟩ := h
  have CG := Lib.hid (rget_head w t b vf vs vr vu h.head w.heap.size h.body.seen.lv s)
  have d1 : w.cell? ⟨b, 1, none⟩ = some vf := h.cell rfl
  obtain ⟨k, er, hge⟩ : ∃ k er, Sf.get t s = (k, er) := ⟨_, _, rfl⟩
  by_cases he : er = 0
  · have hq : ((er : Int) == 0) = true := by rw [beq_iff_eq]; omega
    have hk := get_lt h.good (by rw [hge, he])
    obtain ⟨g, off, c, x, rfl, hsl, hg, _, c0, c1, hF⟩ := h.file_at hk
    have C := Lib.hid (rnow_file w g (off + k * 2) w.heap.size x (Sf.fileAt t k) hg c0 c1 hF.read (Nat.le_refl _) hF.ok)
    have HE : Hid (Sf.size t s = ((Sf.now (Sf.fileAt t k)).length, 0)) := by
      unfold Hid Sf.size Sf.len
      rw [hge]
      simp [he]
    rw [hge] at CG
    have hki : (k : Int) < (t.files.length : Int) := by omega
    have hk0 : ¬ (k : Int) < 0 := by omega
    have hk1 : (0 : Int) ≤ (k : Int) := by omega
    clear h hge he hF c0 c1
    go_enter Tryz.func52, Tryz.ntmps52
    go_wp2_with fail
    refine CG.out.mono ?_
    rintro e1 w1 ⟨rfl, rfl⟩
    clear CG
    go_wp2_with fail
    refine C.out.mono ?_
    rintro e2 w2 ⟨A1, c1, rfl, ho1, hb1⟩
    have HB1 := Lib.hid hb1
    clear C ho1 hb1
    go_wp2
    go_ret2
    rw [HE.out]
    exact ⟨rfl, HB1.out⟩
  · have hq : ((er : Int) == 0) = false := by rw [beq_eq_false_iff_ne]; omega
    have HE : Hid (Sf.size t s = (0, er)) := by
      unfold Hid Sf.size
      rw [hge]
      simp [he]
    rw [hge] at CG
    clear h hge he
    go_enter Tryz.func52, Tryz.ntmps52
    go_wp2_with fail
    refine CG.out.mono ?_
    rintro e1 w1 ⟨rfl, rfl⟩
    clear CG
    go_wp2
    go_ret2
    rw [HE.out]
    exact ⟨rfl, Below.refl _ _⟩
end
end Go.Proofs.YtmcbjcbnckpfkaaGreat
namespace Go.Proofs.YtmcbjcbnckpfkaaGreat
open Go.RowKit
set_option linter.unusedVariables false
section
variable {w w' : World} {f : Fp} {t : Sf.St} {b : Nat} {vf vs vr vu : Value} {rf : List RawF} {rr : List Sl}
theorem RHas.turned (h : RHas w f t b vf vs vr vu rf rr) {F : Nat → Prop} (ht : Turned F w w') (hF : f.Off F) : RHas w' f t b vf vs vr vu rf rr where
  head := (ht.block b (h.lt b (.inl h.mine)) (fun hf => (hF b hf).1 h.mine)).trans h.head
  body := h.body.turned ht (fun k hk => (hF k hk).2) (fun k hk hf => (hF k hf).1 (h.body.filesM k hk)) (fun k hk hf => (hF k hf).1 (h.body.rowM k hk)) (fun i x hx k hk hf => (hF k hf).1 (h.body.rowMs i x hx k hk))
  good := h.good
  mine := h.mine
  lt := fun k hk => Nat.lt_of_lt_of_le (h.lt k hk) ht.size
  sep := h.sep
theorem RHas.below (h : RHas w f t b vf vs vr vu rf rr) (hb : Below w.heap.size w w') : RHas w' f t b vf vs vr vu rf rr :=
  h.turned (Turned.of_below hb) (h.lt.off (fun k hk => hk))
end
theorem lens_more {t : Sf.St} {d : Sf.Dir} {k : Nat} {x : ByteArray × Nat} (h : d[k]? = some x) : Sf.lens t (d.take (k + 1)) = Sf.lens t (d.take k) + (Sf.now (Sf.fileAt t x.2)).length := by
  unfold Sf.lens
  rw [List.take_add_one, h, List.map_append, List.sum_append]
  simp [Sf.len]
section
variable {w : World} {f : Fp} {t : Sf.St} {b : Nat}
set_option maxHeartbeats 4000000 in
set_option maxRecDepth 100000 in
theorem rused_disk (h : RDiskM w f t b) : Calls Tryz.prog 43 #[.pointer (some ⟨b, 0, none⟩)] w (IsNum (Sf.used t) w) := by
  obtain ⟨vf, vs, vr, vu, rf, rr, h⟩ := h
  have HH := Lib.hid h
  have hb : b < w.heap.size := h.lt b (.inl h.mine)
  have h1 : w.cell? ⟨b, 1, none⟩ = some vf := h.cell rfl
  have h4 : w.cell? ⟨b, 4, none⟩ = some vu := h.cell rfl
  have h7 : w.cell? ⟨b, 7, none⟩ = some (.bool t.dead) := h.cell rfl
  have hsn := h.good.seen.1
  have HLT := Lib.hid h.good.seen.2
  have hv := h.body.seen.lv
  clear h
  have H0 := Lib.hid hv
  obtain ⟨A, c, rfl, hc1, hc2, _, _⟩ := hv
  have HC : Hid (∀ w', Below w.heap.size w w' → w'.cell? ⟨b, 1, none⟩ = some vf ∧ w'.cell? ⟨b, 4, none⟩ = some (.slice A t.seen.length c) ∧ w'.cell? ⟨b, 7, none⟩ = some (.bool t.dead)) := fun w' hb' => ⟨(hb'.cell (p := ⟨b, 1, none⟩) hb).trans h1, (hb'.cell (p := ⟨b, 4, none⟩) hb).trans h4, (hb'.cell (p := ⟨b, 7, none⟩) hb).trans h7⟩
  have HBe : Hid (Below w.heap.size w w) := Below.refl _ _
  have HNA : Hid (Sf.used t = if t.dead then 0 else Sf.lens t t.seen) := rfl
  clear hc1 hc2 h4 h7 h1 hb
  obtain ⟨d, hd⟩ : ∃ d, t.seen = d := ⟨_, rfl⟩
  obtain ⟨dd, hdd⟩ : ∃ dd, t.dead = dd := ⟨_, rfl⟩
  rw [hd] at hsn HLT H0 HC HNA
  rw [hdd] at HC HNA
  clear hd hdd
  go_enter Tryz.func43, Tryz.ntmps43
  go_wp2
  go_loopw [3, 4] (fun u i wr => ∃ (k y : Nat), k ≤ d.length ∧ i = .int .i64 (k : Nat) ∧ u = .int .i64 (y : Nat) ∧ Hid (y = Sf.lens t (d.take k)) ∧ y ≤ k * 1048576 ∧ Hid (dd = true → k = 0) ∧ Below w.heap.size w wr) (fun _ i _ => d.length - (intOf i).toNat)
  case atStart => exact ⟨0, 0, by omega, rfl, rfl, rfl, by omega, fun _ => rfl, HBe.out⟩
  case round =>
    obtain ⟨k, y, hk, rfl, rfl, HE, hy, HD, hbr⟩ := hrel
    have HBr := Lib.hid hbr
    obtain ⟨c1, c4, c7⟩ := HC.out wr hbr
    clear hbr HBe
    by_cases hlt : k < d.length
    · have hki : (k : Int) < (d.length : Int) := by omega
      have hk0 : (0 : Int) ≤ (k : Int) := by omega
      have wk : IntKind.i64.wrap ((k : Int) + 1) = (k : Int) + 1 := by rw [IntKind.wrap_i64]; omega
      cases dd with
      | true =>
        have HE2 : Hid (Sf.used t = y) := by
          unfold Hid
          rw [HNA.out, HE.out, HD.out rfl]
          rfl
        clear HE HNA HD
        go_wp2
        go_ret
        rw [HE2.out]
        exact ⟨rfl, HBr.out⟩
      | false =>
        have HBd := Lib.hid HBr.out.drew
        have H1 := H0.out.below_ HBd.out (Nat.le_refl _)
        obtain ⟨g, off, x, rfl, hg, hx, hq, e0, e1⟩ := H1.ent_ hlt
        have hm : x ∈ d := List.mem_of_getElem? hq
        have hn := HLT.out x hm
        have hX := HH.out.below HBd.out
        obtain ⟨g2, off2, c2, r, rfl, hsl, hg2, _, f0, f1, hF⟩ := hX.file_at hn
        have C := Lib.hid (rnow_file wr.drew g2 (off2 + x.2 * 2) wr.drew.heap.size r (Sf.fileAt t x.2) hg2 f0 f1 hF.read (Nat.le_refl _) hF.ok)
        have hlen : (Sf.now (Sf.fileAt t x.2)).length ≤ 1048576 := by rw [← Sf.bytes_all]; exact hF.ok.len _ (Nat.le_refl _)
        have HE2 : Hid (y + (Sf.now (Sf.fileAt t x.2)).length = Sf.lens t (d.take (k + 1))) := by unfold Hid; rw [lens_more hq, HE.out]
        have hni : (x.2 : Int) < (t.files.length : Int) := by omega
        have hn0 : (0 : Int) ≤ (x.2 : Int) := by omega
        obtain ⟨m, hm2⟩ : ∃ m, (Sf.now (Sf.fileAt t x.2)).length = m := ⟨_, rfl⟩
        have HM := Lib.hid hm2
        rw [hm2] at hlen HE2
        have ws : IntKind.i64.wrap ((y : Int) + (m : Int)) = (y : Int) + (m : Int) := by rw [IntKind.wrap_i64]; omega
        have HSX : Hid (∀ w', Below wr.drew.heap.size wr.drew w' → w'.cell? ⟨b, 1, none⟩ = some (.slice (some ⟨g2, off2, none⟩) t.files.length c2) ∧ w'.cell? ⟨b, 4, none⟩ = some (.slice (some ⟨g, off, none⟩) d.length c) ∧ w'.cell? ⟨g, off + k * 2 + 1, none⟩ = some (.int .i64 (x.2 : Nat))) := fun w' hb' => by
          have hs := HBd.out.size
          have hz := HC.out w' (HBd.out.trans (hb'.mono hs))
          exact ⟨hz.1, hz.2.1, (hb'.cell (p := ⟨g, off + k * 2 + 1, none⟩) (by show g < _; omega)).trans e1⟩
        have s0 := HSX.out wr.drew (Below.refl _ _)
        clear hx hq HE H1 e0 e1 hm hn hX hF f0 f1 hm2 hg hg2
        go_wp2
        go_region_held3 (fun w' => w'.cell? ⟨b, 1, none⟩ = some (.slice (some ⟨g2, off2, none⟩) t.files.length c2) ∧ w'.cell? ⟨b, 4, none⟩ = some (.slice (some ⟨g, off, none⟩) d.length c) ∧ w'.cell? ⟨g, off + k * 2 + 1, none⟩ = some (.int .i64 (x.2 : Nat)))
          (first | exact s0 | exact s1)
          (first | (go_at_call 83; (with_reducible refine C.out.mono ?_); rintro en w9 ⟨A9, c9, rfl, ho9, hb9⟩; have HB9 := Lib.hid (HBd.out.trans (hb9.mono HBd.out.size)); have s1 := HSX.out w9 hb9; rw [HM.out] at *; clear hb9 ho9))
        all_goals (
          clear s0 s1 C HSX
          go_wp2
          go_roundw
          case rel => exact ⟨k + 1, y + m, by omega, by go_num, by go_num, HE2, by omega, fun hh => (by cases hh), HB9.out⟩
          case measure => simp [intOf]; omega)
    · have hki : ¬ (k : Int) < (d.length : Int) := by omega
      have HE2 : Hid (Sf.used t = y) := by
        have hh := HE.out
        rw [List.take_of_length_le (by omega)] at hh
        unfold Hid
        rw [HNA.out, hh]
        cases dd with
        | true =>
          have := HD.out rfl
          have e : d = [] := List.length_eq_zero_iff.1 (by omega)
          rw [e]; rfl
        | false => rfl
      clear HE HNA HD
      go_wp2
      go_ret
      rw [HE2.out]
      exact ⟨rfl, HBr.out⟩
end
end Go.Proofs.YtmcbjcbnckpfkaaGreat
