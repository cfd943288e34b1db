/- Parts of the proof. -/
import Derived.Test.YtiafeniflkikeaaGreatPm13
import Derived.Test.YtiafeniflkikeaaGreatPm31
import Derived.Test.YtiafeniflkikeaaGreatPm18
import Derived.Test.YtiafeniflkikeaaGreatPm21
import Derived.Test.YtiafeniflkikeaaGreatPm15
namespace Go.Proofs.YtiafeniflkikeaaGreat
open Go.RowKit
set_option linter.unusedVariables false
def Pp.rootOf (s : Pp.S) (r : Rt.Root) : Rt.Root := { r with seq := (s.root.seq + 1) % 18446744073709551616, pages := Pa.pages s.l }
def IsComM (fp fd : Fp) (b bf U D P H last : Nat) (s : Pp.S) (t : Sf.St) (fP : Int → Option RawU) (fH : Int → Option RawH) (r : Rt.Root) (w : World) (e : Ending) (w' : World) : Prop :=
  (e = .returned (.int .i64 2) ∧ ((r.page ≠ 0 ∧ Pp.need s.l r.page = false) ∨ ¬ Rt.May (Pp.rootOf s r)) ∧ Below w.heap.size w w') ∨
  ((r.page = 0 ∨ Pp.need s.l r.page = true) ∧ ∃ Pb, Rt.putE (Pp.rootOf s r) = (Pb, 0) ∧ ∃ (x : Nat) (t' : Sf.St), Pp.writeE s.name t (Pp.pend s.l) ((Pp.rootOf s r).seq % 2) Pb = (x, t') ∧
    ((x ≠ 0 ∧ IsDeed PDisk fd bf (x, t') w e w') ∨
     (x = 0 ∧ ∃ w1, IsDeed PDisk fd bf (x, t') w e w1 ∧ IsSettled fp b bf U D P H last s fP fH (Pp.rootOf s r) w1 (.returned (.tuple #[])) w')))
section
variable {w w' : World} {fp fd : Fp} {s : Pp.S} {F : List Nat} {b bf U D P H last frm : Nat} {fP : Int → Option RawU} {fH : Int → Option RawH} {t : Sf.St}
set_option maxHeartbeats 4000000 in
set_option maxRecDepth 100000 in
theorem pycommit_any (h : PyHas w fp s F b bf U D P H last frm fP fH) (hD : PDisk w fd t bf) (hap : fp.Apart fd) (ha : t.acts ≤ 1099511300000) (r : Rt.Root) (hfit : Rt.Fit r) (htn : s.turns ≤ 1099511627776) (hsz : (Sf.size t s.name).1 < 9223372036854775808) :
  Calls Tryz.prog 25 #[.pointer (some ⟨b, 0, none⟩), .agg (rtC r)] w (IsComM fp fd b bf U D P H last s t fP fH r w) := by
 have hszC : (Tryz.prog.info? 34).map (·.size) = some (rtC r).size := rt_size
 obtain ⟨C, hC⟩ : ∃ C, rtC r = C := ⟨_, rfl⟩
 obtain ⟨X, hX⟩ : ∃ X, w.alloc (.cells (rtC r) 34) = X := ⟨_, rfl⟩
 have hbX : Below w.heap.size w X := by rw [← hX]; exact (Below.refl _ _).alloc (Nat.le_refl _) _
 have HXR : Hid (Rw X w.heap.size 34 (rtC r)) := by unfold Hid; rw [← hX]; exact Rw.new w _ _
 have c1 : X.cell? ⟨w.heap.size, 1, none⟩ = some (.int .i64 r.page) := HXR.out.cell 1
 have HBX := Lib.hid hbX
 have HHX := Lib.hid (h.below hbX)
 have HH := Lib.hid h
 have HD := Lib.hid hD
 have HA := Lib.hid (And.intro hap (And.intro ha (And.intro hfit (And.intro htn hsz))))
 have CM := Lib.hid (pymade_any (HHX.out.cell rfl))
 have CN := Lib.hid (pyisNeeded_any HHX.out r.page hfit.page)
 rw [hC] at hX HXR hszC ⊢
 have HC := Lib.hid hC
 clear h hD hap ha hfit htn hsz hbX hC
 obtain ⟨nd, hnd⟩ : ∃ nd, Pp.need s.l r.page = nd := ⟨_, rfl⟩
 rw [hnd] at CN
 have HND := Lib.hid hnd
 clear hnd
 by_cases hp0 : r.page = 0
 ·have hp1 : (r.page == 0) = true := by rw [beq_iff_eq]; exact hp0
  rw [hp0] at c1
  have HP0 := Lib.hid hp0
  clear hp0 hp1 CN
  go_enter Tryz.func25, Tryz.ntmps25
  go_wp2_with fail
  refine CM.out.mono ?_
  rintro e w1 ⟨rfl, rfl⟩
  clear CM
  go_wp2_with fail
  obtain ⟨w2, hw2⟩ : ∃ w2, X = w2 := ⟨_, rfl⟩
  subst hw2
  rename World => w2
  have HB2 := HBX
  have HR2 := HXR
  clear c1 hX
  have hdr : Below w2.heap.size w2 w2.drew := below_drewN (Below.refl _ _) 1
  obtain ⟨Y, hY⟩ : ∃ Y, w2.drew = Y := ⟨_, rfl⟩
  rw [hY] at hdr
  have hBY : Below w.heap.size w Y := HB2.out.trans (hdr.mono HB2.out.size)
  have HRY : Hid (Rw Y w.heap.size 34 C) := HR2.out.below hdr HR2.out.lt
  have HCS : Hid (∀ w', Below w.heap.size w w' → w'.cell? ⟨b, 2, none⟩ = some (.int .u64 (s.root.seq : Nat))) := fun w' hw' => (HH.out.below hw').cell rfl
  have CPG := Lib.hid (pypages_any (HH.out.below hBY))
  have hwq : IntKind.u64.wrap ((s.root.seq : Int) + 1) = (((s.root.seq + 1) % 18446744073709551616 : Nat) : Int) := by rw [IntKind.wrap_u64]; omega
  obtain ⟨C2, hC2⟩ : ∃ C2, rtC (Pp.rootOf s r) = C2 := ⟨_, rfl⟩
  obtain ⟨sq, hsq⟩ : ∃ sq, (s.root.seq + 1) % 18446744073709551616 = sq := ⟨_, rfl⟩
  obtain ⟨pg, hpg⟩ : ∃ pg, Pa.pages s.l = pg := ⟨_, rfl⟩
  have hC3 : (C.setIfInBounds 0 (.int .u64 (sq : Nat))).setIfInBounds 2 (.int .i64 pg) = C2 := by rw [← HC.out, ← hC2, ← hsq, ← hpg]; rfl
  have hfit2 : Rt.Fit (Pp.rootOf s r) := by
   obtain ⟨_, g2, g3, g4, g5, g6, g7⟩ := HA.out.2.2.1
   refine ⟨Nat.mod_lt _ (by decide), g2, ?_, g4, g5, g6, g7⟩
   obtain ⟨q1, q2, q3⟩ := Pa.pages_told HH.out.sound.rise (fun x hx => (HH.out.sound.from2 x hx).1) 2 (fun x hx => by have := HH.out.sound.from2 x hx; omega)
   show I64 (Pa.pages s.l)
   unfold Pa.pages I64
   rcases q1 with q1 | ⟨x, hx, _, q1⟩
   ·omega
   ·have := HH.out.sound.from2 x hx; omega
  have hsz2 : (Tryz.prog.info? 34).map (·.size) = some C2.size := by rw [← hC2]; exact rt_size
  rw [hsq] at hwq
  rw [hpg] at CPG
  have HRT := Lib.hid (And.intro hC2 (And.intro hfit2 hC3))
  clear hdr hC2 hfit2 hC3 hsq hpg hszC
  go_wp2_with fail
  apply wp_cutA (X := fun w' => Below w.heap.size w w' ∧ Rw w' w.heap.size 34 C2)
  ·refine wp_region_m (fun w' => Below w.heap.size w w') 12 (by kernel_rfl) ?_
   rw [hY]
   refine zM (i := 0) (v := ?_) rfl (by kernel_rfl) (fun _ _ _ h => h) hBY (Or.inl ⟨by rfl, (by intro w' hSw; have s0 := HCS.out w' hSw; go_simp; first | done | with_reducible rfl)⟩) ?_
   try simp only [Act.put, zA, zC, zD, zE, zF]
   refine zM (i := 1) (v := ?_) rfl (by kernel_rfl) (fun _ _ _ h => h) hBY (Or.inl ⟨by rfl, (by intro w' hSw; have s0 := HCS.out w' hSw; go_simp; first | done | with_reducible rfl)⟩) ?_
   try simp only [Act.put, zA, zB, zC, zD, zE, zF]
   refine zM (i := 2) (v := ?_) rfl (by kernel_rfl) (fun _ _ _ h => h) hBY (Or.inl ⟨by rfl, (by intro w' hSw; have s0 := HCS.out w' hSw; go_simp; first | done | with_reducible rfl)⟩) ?_
   try simp only [Act.put, zA, zB, zC, zD, zE, zF]
   refine zM (i := 3) (v := ?_) rfl (by kernel_rfl) (fun _ _ _ h => h) hBY (Or.inl ⟨by rfl, (by intro w' hSw; have s0 := HCS.out w' hSw; go_simp; first | done | with_reducible rfl)⟩) ?_
   try simp only [Act.put, zA, zB, zC, zD, zE, zF]
   refine zM (i := 4) (v := ?_) rfl (by kernel_rfl) (fun _ _ _ h => h) hBY (Or.inl ⟨by rfl, (by intro w' hSw; have s0 := HCS.out w' hSw; go_simp; first | done | with_reducible rfl)⟩) ?_
   try simp only [Act.put, zA, zB, zC, zD, zE, zF]
   refine zM (i := 5) (v := ?_) rfl (by kernel_rfl) (fun _ _ _ h => h) hBY (Or.inl ⟨by rfl, (by intro w' hSw; have s0 := HCS.out w' hSw; go_simp; first | done | with_reducible rfl)⟩) ?_
   try simp only [Act.put, zA, zB, zC, zD, zE, zF]
   refine zM (i := 6) (v := ?_) rfl (by kernel_rfl) (fun _ _ _ h => h) hBY (Or.inl ⟨by rfl, (by intro w' hSw; have s0 := HCS.out w' hSw; go_simp; first | done | with_reducible rfl)⟩) ?_
   try simp only [Act.put, zA, zB, zC, zD, zE, zF]
   refine zM (i := 8) (v := ?_) rfl (by kernel_rfl) (fun _ _ _ h => h) hBY (Or.inl ⟨by rfl, (by intro w' hSw; have s0 := HCS.out w' hSw; go_simp; first | done | with_reducible rfl)⟩) ?_
   try simp only [Act.put, zA, zB, zC, zD, zE, zF]
   refine wpAnyM_next (i := 7) (by kernel_rfl) rfl (fun K hK => ?_)
   go_simp
   refine CPG.out.mono ?_
   rintro e w3 ⟨rfl, b3⟩
   have hB3 := hBY.trans (b3.mono hBY.size)
   have hR3 : Rw w3 w.heap.size 34 C := HRY.out.below b3 HRY.out.lt
   have HB3 := Lib.hid hB3
   have HR3 := Lib.hid hR3
   refine hK.out _ _ (.inr hB3) ?_
   clear hK K b3
   try simp only [Act.put, zA, zB, zC, zD, zE, zF]
   have k0 : w3.cell? ⟨w.heap.size, 0, none⟩ = some (.int .u64 (r.seq : Nat)) := by rw [hR3.cell 0, ← HC.out]; rfl
   have f0 : w3.frozen? ⟨w.heap.size, 0, none⟩ = false := hR3.frozen 0
   obtain ⟨w4, hw4⟩ : ∃ w4, w3.setCell ⟨w.heap.size, 0, none⟩ (.int .u64 (sq : Nat)) = w4 := ⟨_, rfl⟩
   have HR4 : Hid (Rw w4 w.heap.size 34 (C.setIfInBounds 0 (.int .u64 (sq : Nat)))) := by unfold Hid; rw [← hw4]; exact HR3.out.set 0 _
   have hB4 : Below w.heap.size w w4 := by rw [← hw4]; exact HB3.out.setCell (p := ⟨w.heap.size, 0, none⟩) (Nat.le_refl _) _
   refine wpAnyM_next (i := 9) (by kernel_rfl) rfl (fun K hK => ?_)
   go_simp
   first | rw [hw4] | skip
   refine hK.out _ _ (.inr hB4) ?_
   clear hK K k0 f0 hw4
   try simp only [Act.put, zA, zB, zC, zD, zE, zF]
   refine zM (i := 10) (v := ?_) rfl (by kernel_rfl) (fun _ _ _ h => h) hB4 (Or.inl ⟨by rfl, (by intro w' hSw; skip; go_simp; first | done | with_reducible rfl)⟩) ?_
   try simp only [Act.put, zA, zB, zC, zD, zE, zF]
   have k2 : w4.cell? ⟨w.heap.size, 2, none⟩ = some (.int .i64 r.pages) := by rw [HR4.out.cell 2, ← HC.out]; rfl
   have f2 : w4.frozen? ⟨w.heap.size, 2, none⟩ = false := HR4.out.frozen 2
   have HB4 := Lib.hid hB4
   obtain ⟨w5, hw5⟩ : ∃ w5, w4.setCell ⟨w.heap.size, 2, none⟩ (.int .i64 pg) = w5 := ⟨_, rfl⟩
   have HR5 : Hid (Rw w5 w.heap.size 34 C2) := by unfold Hid; rw [← hw5, ← HRT.out.2.2]; exact HR4.out.set 2 _
   have hB5 : Below w.heap.size w w5 := by rw [← hw5]; exact HB4.out.setCell (p := ⟨w.heap.size, 2, none⟩) (Nat.le_refl _) _
   have HB5 := Lib.hid hB5
   refine wpAnyM_next (i := 11) (by kernel_rfl) rfl (fun K hK => ?_)
   go_simp
   first | rw [hw5] | skip
   refine hK.out _ _ (.inr hB5) ?_
   clear hK K k2 f2 hw5
   try simp only [Act.put, zA, zB, zC, zD, zE, zF]
   refine wpAnyM_done (by kernel_rfl) ?_ _
   exact ⟨rfl, HB5.out, HR5.out⟩
  rintro w5 ⟨hB5, hR5⟩
  have HB5 := Lib.hid hB5
  have HR5 := Lib.hid hR5
  have CP := Lib.hid (prtput_any (Pp.rootOf s r) w5 HRT.out.2.1)
  rw [HRT.out.1] at CP
  clear hB5 hR5 hBY hY CPG
  go_wp2_with ((with_reducible refine gate_load 34 ?_); refine wpList_load_row rfl 34 _ rfl w.heap.size rfl 34 C2 (0, 0) _ HR5.out Tryz.underlying34 rfl hsz2 ?_)
  refine CP.out.mono ?_
  rintro e w6 ⟨A, c, rfl, ho, b6⟩
  have HO6 := Lib.hid ho
  have HB6 := Lib.hid (HB5.out.trans (b6.mono HB5.out.size))
  have HR6 : Hid (Rw w6 w.heap.size 34 C2) := HR5.out.below b6 HR5.out.lt
  have HS6 := Lib.hid b6.size
  have HS5 := Lib.hid HB5.out.size
  clear CP ho b6
  by_cases hm : Rt.May (Pp.rootOf s r)
  ·obtain ⟨Pb, -, hput, -⟩ := Rt.put_page hm
   have hlen := (Rt.page_len hput).1
   have HPUT := Lib.hid (And.intro hput hlen)
   simp only [hput] at HO6 ⊢
   have CL := Lib.hid (prtplace_any (Pp.rootOf s r) w6 HRT.out.2.1)
   rw [HRT.out.1] at CL
   obtain ⟨at_, hat⟩ : ∃ at_, (Pp.rootOf s r).seq % 2 = at_ := ⟨_, rfl⟩
   rw [hat] at CL
   have hat2 : at_ < 2 := by omega
   have HAT := Lib.hid hat
   clear hput hlen hm hat
   go_wp2_with ((with_reducible refine gate_load 34 ?_); refine wpList_load_row rfl 34 _ rfl w.heap.size rfl 34 C2 (0, 0) _ HR6.out Tryz.underlying34 rfl hsz2 ?_)
   refine CL.out.mono ?_
   rintro e w7 ⟨rfl, b7⟩
   have hO7 := HO6.out.below_ b7 (Nat.le_refl _)
   have HB7 := Lib.hid (HB6.out.trans (b7.mono HB6.out.size))
   have HR7 : Hid (Rw w7 w.heap.size 34 C2) := HR6.out.below b7 HR6.out.lt
   have HH7 := Lib.hid (HH.out.below HB7.out)
   have CW := Lib.hid (pywrite_any HH7.out (pdisk_law.below HD.out HB7.out) HA.out.1 HA.out.2.1 at_ hat2 (.slice A Pb.length c) Pb HPUT.out.2 HA.out.2.2.2.2 hO7.form_ (fun k hk => ⟨fun hm => by have h1 := (hO7.lt_ k hk).1; have h2 := pdisk_law.lt HD.out k (.inl hm); have h3 := HS5.out; omega, (hO7.lt_ k hk).2⟩))
   obtain ⟨x, t', hwe⟩ : ∃ x t', Pp.writeE s.name t (Pp.pend s.l) at_ Pb = (x, t') := ⟨_, _, rfl⟩
   rw [hwe] at CW
   have HWE := Lib.hid hwe
   clear CL hO7 b7 hwe
   go_wp2_with fail
   refine CW.out.mono ?_
   rintro e w8 hw8
   obtain ⟨rfl, f8, hD8, hN8, hT8⟩ := hw8
   have HD8 : Hid (IsDeed PDisk fd bf (x, t') w (.returned (.int .i64 ((x, t').1 : Nat))) w8) := IsDeed.behind HB7.out ⟨rfl, f8, hD8, hN8, hT8⟩
   have HH8 := Lib.hid (HH7.out.turned hT8 HA.out.1.1)
   have HR8 : Hid (Rw w8 w.heap.size 34 C2) := (hT8.block _ HR7.out.lt (fun hm => by have := pdisk_law.lt HD.out _ (.inl hm); omega)).trans HR7.out
   clear CW hD8 hN8 hT8
   simp only
   by_cases hx : x = 0
   ·subst hx
    have CS := Lib.hid (pysettle_any HH8.out (Pp.rootOf s r) HA.out.2.2.2.1)
    rw [HRT.out.1] at CS
    go_wp2_with ((with_reducible refine gate_load 34 ?_); refine wpList_load_row rfl 34 _ rfl w.heap.size rfl 34 C2 (0, 0) _ HR8.out Tryz.underlying34 rfl hsz2 ?_)
    refine CS.out.mono ?_
    rintro e w9 hw9
    obtain ⟨rfl, hw9'⟩ := id hw9
    have HS9 := Lib.hid hw9
    clear CS hw9 hw9'
    go_wp2
    go_ret
    exact .inr ⟨.inl HP0.out, Pb, HPUT.out.1, 0, t', by rw [HAT.out]; exact HWE.out, .inr ⟨rfl, w8, HD8.out, HS9.out⟩⟩
   ·have hdx : ((x : Int) == 0) = false := by rw [beq_eq_false_iff_ne]; omega
    go_wp2_with fail
    go_ret
    exact .inr ⟨.inl HP0.out, Pb, HPUT.out.1, x, t', by rw [HAT.out]; exact HWE.out, .inl ⟨hx, HD8.out⟩⟩
  ·have hput : Rt.putE (Pp.rootOf s r) = ([], 2) := by unfold Rt.putE; exact if_neg hm
   simp only [hput] at HO6 ⊢
   have HM := Lib.hid hm
   clear hput hm
   go_wp2_with fail
   go_ret
   exact .inl ⟨rfl, .inr HM.out, HB6.out⟩
 ·have hp1 : (r.page == 0) = false := by rw [beq_eq_false_iff_ne]; exact hp0
  have HP0 := Lib.hid hp0
  clear hp0
  cases nd
  ·go_enter Tryz.func25, Tryz.ntmps25
   go_wp2_with fail
   refine CM.out.mono ?_
   rintro e w1 ⟨rfl, rfl⟩
   clear CM
   go_wp2_with fail
   refine CN.out.mono ?_
   rintro e w2 ⟨rfl, b2⟩
   have HB2 := Lib.hid (HBX.out.trans (b2.mono HBX.out.size))
   clear CN b2
   go_wp2_with fail
   go_ret
   exact .inl ⟨rfl, .inl ⟨HP0.out, HND.out⟩, HB2.out⟩
  ·go_enter Tryz.func25, Tryz.ntmps25
   go_wp2_with fail
   refine CM.out.mono ?_
   rintro e w1 ⟨rfl, rfl⟩
   clear CM
   go_wp2_with fail
   refine CN.out.mono ?_
   rintro e w2 ⟨rfl, b2⟩
   have HB2 := Lib.hid (HBX.out.trans (b2.mono HBX.out.size))
   have HR2 : Hid (Rw w2 w.heap.size 34 C) := HXR.out.below b2 HXR.out.lt
   clear CN b2 c1 hX
   have hdr : Below w2.heap.size w2 w2.drew := below_drewN (Below.refl _ _) 1
   obtain ⟨Y, hY⟩ : ∃ Y, w2.drew = Y := ⟨_, rfl⟩
   rw [hY] at hdr
   have hBY : Below w.heap.size w Y := HB2.out.trans (hdr.mono HB2.out.size)
   have HRY : Hid (Rw Y w.heap.size 34 C) := HR2.out.below hdr HR2.out.lt
   have HCS : Hid (∀ w', Below w.heap.size w w' → w'.cell? ⟨b, 2, none⟩ = some (.int .u64 (s.root.seq : Nat))) := fun w' hw' => (HH.out.below hw').cell rfl
   have CPG := Lib.hid (pypages_any (HH.out.below hBY))
   have hwq : IntKind.u64.wrap ((s.root.seq : Int) + 1) = (((s.root.seq + 1) % 18446744073709551616 : Nat) : Int) := by rw [IntKind.wrap_u64]; omega
   obtain ⟨C2, hC2⟩ : ∃ C2, rtC (Pp.rootOf s r) = C2 := ⟨_, rfl⟩
   obtain ⟨sq, hsq⟩ : ∃ sq, (s.root.seq + 1) % 18446744073709551616 = sq := ⟨_, rfl⟩
   obtain ⟨pg, hpg⟩ : ∃ pg, Pa.pages s.l = pg := ⟨_, rfl⟩
   have hC3 : (C.setIfInBounds 0 (.int .u64 (sq : Nat))).setIfInBounds 2 (.int .i64 pg) = C2 := by rw [← HC.out, ← hC2, ← hsq, ← hpg]; rfl
   have hfit2 : Rt.Fit (Pp.rootOf s r) := by
    obtain ⟨_, g2, g3, g4, g5, g6, g7⟩ := HA.out.2.2.1
    refine ⟨Nat.mod_lt _ (by decide), g2, ?_, g4, g5, g6, g7⟩
    obtain ⟨q1, q2, q3⟩ := Pa.pages_told HH.out.sound.rise (fun x hx => (HH.out.sound.from2 x hx).1) 2 (fun x hx => by have := HH.out.sound.from2 x hx; omega)
    show I64 (Pa.pages s.l)
    unfold Pa.pages I64
    rcases q1 with q1 | ⟨x, hx, _, q1⟩
    ·omega
    ·have := HH.out.sound.from2 x hx; omega
   have hsz2 : (Tryz.prog.info? 34).map (·.size) = some C2.size := by rw [← hC2]; exact rt_size
   rw [hsq] at hwq
   rw [hpg] at CPG
   have HRT := Lib.hid (And.intro hC2 (And.intro hfit2 hC3))
   clear hdr hC2 hfit2 hC3 hsq hpg hszC
   go_wp2_with fail
   apply wp_cutA (X := fun w' => Below w.heap.size w w' ∧ Rw w' w.heap.size 34 C2)
   ·refine wp_region_m (fun w' => Below w.heap.size w w') 12 (by kernel_rfl) ?_
    rw [hY]
    refine zM (i := 0) (v := ?_) rfl (by kernel_rfl) (fun _ _ _ h => h) hBY (Or.inl ⟨by rfl, (by intro w' hSw; have s0 := HCS.out w' hSw; go_simp; first | done | with_reducible rfl)⟩) ?_
    try simp only [Act.put, zA, zC, zD, zE, zF]
    refine zM (i := 1) (v := ?_) rfl (by kernel_rfl) (fun _ _ _ h => h) hBY (Or.inl ⟨by rfl, (by intro w' hSw; have s0 := HCS.out w' hSw; go_simp; first | done | with_reducible rfl)⟩) ?_
    try simp only [Act.put, zA, zB, zC, zD, zE, zF]
    refine zM (i := 2) (v := ?_) rfl (by kernel_rfl) (fun _ _ _ h => h) hBY (Or.inl ⟨by rfl, (by intro w' hSw; have s0 := HCS.out w' hSw; go_simp; first | done | with_reducible rfl)⟩) ?_
    try simp only [Act.put, zA, zB, zC, zD, zE, zF]
    refine zM (i := 3) (v := ?_) rfl (by kernel_rfl) (fun _ _ _ h => h) hBY (Or.inl ⟨by rfl, (by intro w' hSw; have s0 := HCS.out w' hSw; go_simp; first | done | with_reducible rfl)⟩) ?_
    try simp only [Act.put, zA, zB, zC, zD, zE, zF]
    refine zM (i := 4) (v := ?_) rfl (by kernel_rfl) (fun _ _ _ h => h) hBY (Or.inl ⟨by rfl, (by intro w' hSw; have s0 := HCS.out w' hSw; go_simp; first | done | with_reducible rfl)⟩) ?_
    try simp only [Act.put, zA, zB, zC, zD, zE, zF]
    refine zM (i := 5) (v := ?_) rfl (by kernel_rfl) (fun _ _ _ h => h) hBY (Or.inl ⟨by rfl, (by intro w' hSw; have s0 := HCS.out w' hSw; go_simp; first | done | with_reducible rfl)⟩) ?_
    try simp only [Act.put, zA, zB, zC, zD, zE, zF]
    refine zM (i := 6) (v := ?_) rfl (by kernel_rfl) (fun _ _ _ h => h) hBY (Or.inl ⟨by rfl, (by intro w' hSw; have s0 := HCS.out w' hSw; go_simp; first | done | with_reducible rfl)⟩) ?_
    try simp only [Act.put, zA, zB, zC, zD, zE, zF]
    refine zM (i := 8) (v := ?_) rfl (by kernel_rfl) (fun _ _ _ h => h) hBY (Or.inl ⟨by rfl, (by intro w' hSw; have s0 := HCS.out w' hSw; go_simp; first | done | with_reducible rfl)⟩) ?_
    try simp only [Act.put, zA, zB, zC, zD, zE, zF]
    refine wpAnyM_next (i := 7) (by kernel_rfl) rfl (fun K hK => ?_)
    go_simp
    refine CPG.out.mono ?_
    rintro e w3 ⟨rfl, b3⟩
    have hB3 := hBY.trans (b3.mono hBY.size)
    have hR3 : Rw w3 w.heap.size 34 C := HRY.out.below b3 HRY.out.lt
    have HB3 := Lib.hid hB3
    have HR3 := Lib.hid hR3
    refine hK.out _ _ (.inr hB3) ?_
    clear hK K b3
    try simp only [Act.put, zA, zB, zC, zD, zE, zF]
    have k0 : w3.cell? ⟨w.heap.size, 0, none⟩ = some (.int .u64 (r.seq : Nat)) := by rw [hR3.cell 0, ← HC.out]; rfl
    have f0 : w3.frozen? ⟨w.heap.size, 0, none⟩ = false := hR3.frozen 0
    obtain ⟨w4, hw4⟩ : ∃ w4, w3.setCell ⟨w.heap.size, 0, none⟩ (.int .u64 (sq : Nat)) = w4 := ⟨_, rfl⟩
    have HR4 : Hid (Rw w4 w.heap.size 34 (C.setIfInBounds 0 (.int .u64 (sq : Nat)))) := by unfold Hid; rw [← hw4]; exact HR3.out.set 0 _
    have hB4 : Below w.heap.size w w4 := by rw [← hw4]; exact HB3.out.setCell (p := ⟨w.heap.size, 0, none⟩) (Nat.le_refl _) _
    refine wpAnyM_next (i := 9) (by kernel_rfl) rfl (fun K hK => ?_)
    go_simp
    first | rw [hw4] | skip
    refine hK.out _ _ (.inr hB4) ?_
    clear hK K k0 f0 hw4
    try simp only [Act.put, zA, zB, zC, zD, zE, zF]
    refine zM (i := 10) (v := ?_) rfl (by kernel_rfl) (fun _ _ _ h => h) hB4 (Or.inl ⟨by rfl, (by intro w' hSw; skip; go_simp; first | done | with_reducible rfl)⟩) ?_
    try simp only [Act.put, zA, zB, zC, zD, zE, zF]
    have k2 : w4.cell? ⟨w.heap.size, 2, none⟩ = some (.int .i64 r.pages) := by rw [HR4.out.cell 2, ← HC.out]; rfl
    have f2 : w4.frozen? ⟨w.heap.size, 2, none⟩ = false := HR4.out.frozen 2
    have HB4 := Lib.hid hB4
    obtain ⟨w5, hw5⟩ : ∃ w5, w4.setCell ⟨w.heap.size, 2, none⟩ (.int .i64 pg) = w5 := ⟨_, rfl⟩
    have HR5 : Hid (Rw w5 w.heap.size 34 C2) := by unfold Hid; rw [← hw5, ← HRT.out.2.2]; exact HR4.out.set 2 _
    have hB5 : Below w.heap.size w w5 := by rw [← hw5]; exact HB4.out.setCell (p := ⟨w.heap.size, 2, none⟩) (Nat.le_refl _) _
    have HB5 := Lib.hid hB5
    refine wpAnyM_next (i := 11) (by kernel_rfl) rfl (fun K hK => ?_)
    go_simp
    first | rw [hw5] | skip
    refine hK.out _ _ (.inr hB5) ?_
    clear hK K k2 f2 hw5
    try simp only [Act.put, zA, zB, zC, zD, zE, zF]
    refine wpAnyM_done (by kernel_rfl) ?_ _
    exact ⟨rfl, HB5.out, HR5.out⟩
   rintro w5 ⟨hB5, hR5⟩
   have HB5 := Lib.hid hB5
   have HR5 := Lib.hid hR5
   have CP := Lib.hid (prtput_any (Pp.rootOf s r) w5 HRT.out.2.1)
   rw [HRT.out.1] at CP
   clear hB5 hR5 hBY hY CPG
   go_wp2_with ((with_reducible refine gate_load 34 ?_); refine wpList_load_row rfl 34 _ rfl w.heap.size rfl 34 C2 (0, 0) _ HR5.out Tryz.underlying34 rfl hsz2 ?_)
   refine CP.out.mono ?_
   rintro e w6 ⟨A, c, rfl, ho, b6⟩
   have HO6 := Lib.hid ho
   have HB6 := Lib.hid (HB5.out.trans (b6.mono HB5.out.size))
   have HR6 : Hid (Rw w6 w.heap.size 34 C2) := HR5.out.below b6 HR5.out.lt
   have HS6 := Lib.hid b6.size
   have HS5 := Lib.hid HB5.out.size
   clear CP ho b6
   by_cases hm : Rt.May (Pp.rootOf s r)
   ·obtain ⟨Pb, -, hput, -⟩ := Rt.put_page hm
    have hlen := (Rt.page_len hput).1
    have HPUT := Lib.hid (And.intro hput hlen)
    simp only [hput] at HO6 ⊢
    have CL := Lib.hid (prtplace_any (Pp.rootOf s r) w6 HRT.out.2.1)
    rw [HRT.out.1] at CL
    obtain ⟨at_, hat⟩ : ∃ at_, (Pp.rootOf s r).seq % 2 = at_ := ⟨_, rfl⟩
    rw [hat] at CL
    have hat2 : at_ < 2 := by omega
    have HAT := Lib.hid hat
    clear hput hlen hm hat
    go_wp2_with ((with_reducible refine gate_load 34 ?_); refine wpList_load_row rfl 34 _ rfl w.heap.size rfl 34 C2 (0, 0) _ HR6.out Tryz.underlying34 rfl hsz2 ?_)
    refine CL.out.mono ?_
    rintro e w7 ⟨rfl, b7⟩
    have hO7 := HO6.out.below_ b7 (Nat.le_refl _)
    have HB7 := Lib.hid (HB6.out.trans (b7.mono HB6.out.size))
    have HR7 : Hid (Rw w7 w.heap.size 34 C2) := HR6.out.below b7 HR6.out.lt
    have HH7 := Lib.hid (HH.out.below HB7.out)
    have CW := Lib.hid (pywrite_any HH7.out (pdisk_law.below HD.out HB7.out) HA.out.1 HA.out.2.1 at_ hat2 (.slice A Pb.length c) Pb HPUT.out.2 HA.out.2.2.2.2 hO7.form_ (fun k hk => ⟨fun hm => by have h1 := (hO7.lt_ k hk).1; have h2 := pdisk_law.lt HD.out k (.inl hm); have h3 := HS5.out; omega, (hO7.lt_ k hk).2⟩))
    obtain ⟨x, t', hwe⟩ : ∃ x t', Pp.writeE s.name t (Pp.pend s.l) at_ Pb = (x, t') := ⟨_, _, rfl⟩
    rw [hwe] at CW
    have HWE := Lib.hid hwe
    clear CL hO7 b7 hwe
    go_wp2_with fail
    refine CW.out.mono ?_
    rintro e w8 hw8
    obtain ⟨rfl, f8, hD8, hN8, hT8⟩ := hw8
    have HD8 : Hid (IsDeed PDisk fd bf (x, t') w (.returned (.int .i64 ((x, t').1 : Nat))) w8) := IsDeed.behind HB7.out ⟨rfl, f8, hD8, hN8, hT8⟩
    have HH8 := Lib.hid (HH7.out.turned hT8 HA.out.1.1)
    have HR8 : Hid (Rw w8 w.heap.size 34 C2) := (hT8.block _ HR7.out.lt (fun hm => by have := pdisk_law.lt HD.out _ (.inl hm); omega)).trans HR7.out
    clear CW hD8 hN8 hT8
    simp only
    by_cases hx : x = 0
    ·subst hx
     have CS := Lib.hid (pysettle_any HH8.out (Pp.rootOf s r) HA.out.2.2.2.1)
     rw [HRT.out.1] at CS
     go_wp2_with ((with_reducible refine gate_load 34 ?_); refine wpList_load_row rfl 34 _ rfl w.heap.size rfl 34 C2 (0, 0) _ HR8.out Tryz.underlying34 rfl hsz2 ?_)
     refine CS.out.mono ?_
     rintro e w9 hw9
     obtain ⟨rfl, hw9'⟩ := id hw9
     have HS9 := Lib.hid hw9
     clear CS hw9 hw9'
     go_wp2
     go_ret
     exact .inr ⟨.inr HND.out, Pb, HPUT.out.1, 0, t', by rw [HAT.out]; exact HWE.out, .inr ⟨rfl, w8, HD8.out, HS9.out⟩⟩
    ·have hdx : ((x : Int) == 0) = false := by rw [beq_eq_false_iff_ne]; omega
     go_wp2_with fail
     go_ret
     exact .inr ⟨.inr HND.out, Pb, HPUT.out.1, x, t', by rw [HAT.out]; exact HWE.out, .inl ⟨hx, HD8.out⟩⟩
   ·have hput : Rt.putE (Pp.rootOf s r) = ([], 2) := by unfold Rt.putE; exact if_neg hm
    simp only [hput] at HO6 ⊢
    have HM := Lib.hid hm
    clear hput hm
    go_wp2_with fail
    go_ret
    exact .inl ⟨rfl, .inr HM.out, HB6.out⟩
end
end Go.Proofs.YtiafeniflkikeaaGreat
namespace Go.Proofs.YtiafeniflkikeaaGreat.Pp
theorem sizeL_base (l : List Pa.Page) : ∀ s, s ≤ Pa.sizeL s l := by
 unfold Pa.sizeL
 induction l with
 | nil => intro s; exact Nat.le_refl _
 | cons x l ih =>
  intro s
  rw [List.foldl_cons]
  refine Nat.le_trans ?_ (ih _)
  split <;> omega
theorem sizeL_ge {l : List Pa.Page} : ∀ {s : Nat} {x : Pa.Page}, x ∈ l → x.state = 2 → (x.n + 1) * 512 ≤ Pa.sizeL s l := by
 induction l with
 | nil => intro s x hx; cases hx
 | cons y l ih =>
  intro s x hx hs
  have e : Pa.sizeL s (y :: l) = Pa.sizeL (if y.state = 2 then max s ((y.n + 1) * 512) else s) l := rfl
  rw [e]
  rcases List.mem_cons.1 hx with rfl | hx
  ·refine Nat.le_trans ?_ (sizeL_base l _)
   rw [if_pos hs]; omega
  ·exact ih hx hs
theorem rdE_ok {F : List Nat} {n k : Nat} {b : List Nat} (h : rdE F n = (k, b, 0)) : 512 * (n + 1) ≤ F.length ∧ Pg.getE n (pageOf F n) = (k, b, 0) := by
 unfold rdE at h
 split at h
 ·simp at h
 split at h
 ·simp at h
 ·exact ⟨by omega, h⟩
theorem rdE_of {F : List Nat} {n k : Nat} {b : List Nat} (h : 512 * (n + 1) ≤ F.length) (hg : Pg.getE n (pageOf F n) = (k, b, 0)) : rdE F n = (k, b, 0) := by
 unfold rdE; rw [if_neg (by omega), if_neg (by omega), hg]
theorem getE_page {n k : Nat} {b : List Nat} (hn : n < 65536) (hb : b.length ≤ 496) : Pg.getE (n : Nat) (Pg.page n k b) = (k, b, 0) := by
 have h := Pg.putE_ok (n := (n : Int)) (k := k) (b := b) (by omega) (by omega)
 rw [Int.toNat_natCast] at h
 exact (Pg.getE_put h).1
end Go.Proofs.YtiafeniflkikeaaGreat.Pp
namespace Go.Proofs.YtiafeniflkikeaaGreat
open Go.RowKit
set_option linter.unusedVariables false
theorem Pp.kept_mem {l : List Pa.Page} {x : Pa.Page} : x ∈ (Pa.keep l).map Pa.used ↔ ∃ y ∈ l, y.state ≠ 3 ∧ x = Pa.used y := by
 unfold Pa.keep
 constructor
 ·intro hx
  obtain ⟨y, hy, rfl⟩ := List.mem_map.1 hx
  have h1 := List.mem_filter.1 hy
  exact ⟨y, h1.1, by simpa using h1.2, rfl⟩
 ·rintro ⟨y, hy, hs, rfl⟩
  exact List.mem_map.2 ⟨y, List.mem_filter.2 ⟨hy, by simpa using hs⟩, rfl⟩
theorem Pp.kept_rising {l : List Pa.Page} (h : Pa.Rising l) : Pa.Rising ((Pa.keep l).map Pa.used) := by
 unfold Pa.keep Pa.Rising
 rw [List.pairwise_map]
 exact List.Pairwise.filter _ h
section
variable {w w' : World} {fp : Fp} {s : Pp.S} {F F' : List Nat} {b bf U D P H last frm : Nat} {fP : Int → Option RawU} {fH : Int → Option RawH} {e : Ending} {R : Rt.Root}
theorem IsSettled.has (h : PyHas w fp s F b bf U D P H last frm fP fH) (hk : IsSettled fp b bf U D P H last s fP fH R w e w') (hN : Pp.New s F F' R) (hR : Rt.May R) :
  ∃ last' fN, PyHas w' fp { s with root := R, l := (Pa.keep s.l).map Pa.used, turns := s.turns + 65536 } F' b bf U D P H last' 2 (fun _ => none) fN := by
 obtain ⟨-, last', fU, fN, h1, h2, h3, h4, h5, h6, h7, h8, h9, h10⟩ := hk
 have hno : ∀ q, fp.R q → ¬ fp.M q := fun q hq => (h.r q hq).1
 have eU : Pp.usedF ((Pa.keep s.l).map Pa.used) = fU := Pp.unit_ext (fun k => by
  rw [Pp.usedF_some, h4 k]
  constructor
  ·rintro ⟨x, hx, hn, _⟩
   obtain ⟨y, hy, hs, rfl⟩ := Pp.kept_mem.1 hx
   exact ⟨y, hy, hn, hs⟩
  ·rintro ⟨y, hy, hn, hs⟩
   exact ⟨Pa.used y, Pp.kept_mem.2 ⟨y, hy, hs, rfl⟩, hn, by simp [Pa.used]⟩)
 have eD : Pp.dropF ((Pa.keep s.l).map Pa.used) = fun _ => none := Pp.unit_ext (fun k => by
  rw [Pp.dropF_some]
  constructor
  ·rintro ⟨x, hx, _, h3⟩
   obtain ⟨y, hy, hs, rfl⟩ := Pp.kept_mem.1 hx
   simp [Pa.used] at h3
  ·intro h; cases h)
 have hlF := Pp.sizeL_base s.l F.length
 have hlen := hN.len
 refine ⟨last', fN, h2, by rw [eU]; exact h3, by rw [eD]; exact h5.mono_ (by omega), h6.mono_ (by omega), h7, (fun k c hc => by cases hc), fun x hx hs => ?_, fun k c hc => ?_, h9, by have := h.last; show last' ≤ s.turns + 65536; omega, ⟨by omega, by omega⟩, (fun k hk hk2 => by omega),
  ⟨hR, Pp.kept_rising h.sound.rise, fun x hx => ?_, hN.root, by have := h.sound.big; omega, h.sound.cache, h.sound.name⟩, h.m, fun k hk => ⟨(h.r k hk).1, Nat.lt_of_lt_of_le (h.r k hk).2 h10.size⟩, h.sb, h.su, h.sd, h.sp⟩
 ·obtain ⟨y, hy, _, rfl⟩ := Pp.kept_mem.1 hx
  simp [Pa.used] at hs
 ·obtain ⟨ht, hor⟩ := h8 k c hc
  rcases hor with ⟨u, hu, hcu⟩ | ⟨hf, hd⟩
  ·obtain ⟨x, hx, hn, hs, hin⟩ := h.hpend k u hu
   have hx2 := h.sound.from2 x hx
   refine ⟨⟨Pa.used x, Pp.kept_mem.2 ⟨x, hx, by omega, rfl⟩, hn, by simp [Pa.used]⟩, ht, x.kind, x.body, by rw [hcu]; exact hin.turned h10 hno, ?_⟩
   have hk : k.toNat = x.n := by omega
   have hge := Pp.sizeL_ge (s := F.length) hx hs
   have hpt := Pg.putE_ok (n := (x.n : Int)) (k := x.kind) (b := x.body) (by omega) (by have := hin.len; omega)
   rw [Int.toNat_natCast] at hpt
   rw [hk]
   unfold Pp.rdE
   rw [if_neg (by omega), if_neg (by omega), hN.pend x hx hs]
   exact (Pg.getE_put hpt).1
  ·obtain ⟨⟨x, hx, hn, hs⟩, _, kd, bd, hin, hrd⟩ := h.hhand k c hf
   have hx2 := h.sound.from2 x hx
   have hs3 : x.state ≠ 3 := fun h3 => by
    have := Pp.dropF_some.2 ⟨x, hx, hn, h3⟩
    rw [hd] at this
    cases this
   refine ⟨⟨Pa.used x, Pp.kept_mem.2 ⟨x, hx, hs3, rfl⟩, hn, by simp [Pa.used]⟩, ht, kd, bd, hin.turned h10 hno, ?_⟩
   have hk : k.toNat = x.n := by omega
   rw [hk] at hrd ⊢
   unfold Pp.rdE at hrd ⊢
   by_cases q1 : F.length < 512 * x.n
   ·rw [if_pos q1] at hrd; simp at hrd
   by_cases q2 : F.length < 512 * (x.n + 1)
   ·rw [if_neg q1, if_pos q2] at hrd; simp at hrd
   rw [if_neg q1, if_neg q2] at hrd
   rw [if_neg (by omega), if_neg (by omega), hN.used x hx hs hx2.2.1 (by omega)]
   exact hrd
 ·obtain ⟨y, hy, _, rfl⟩ := Pp.kept_mem.1 hx
  have := h.sound.from2 y hy
  exact ⟨this.1, this.2.1, .inl rfl⟩
end
end Go.Proofs.YtiafeniflkikeaaGreat
namespace Go.Proofs.YtiafeniflkikeaaGreat
open Go.RowKit
set_option linter.unusedVariables false
namespace Sf
def put (t : St) (k : Nat) (a : Act) : St := { t with files := t.files.set k ⟨(fileAt t k).sure, (fileAt t k).row ++ [a]⟩, acts := t.acts + 1 }
def syn (t : St) (k : Nat) : St := { t with files := t.files.set k ⟨now (fileAt t k), []⟩, acts := t.acts + 1 }
theorem fileAt_set {t : St} {k : Nat} (hk : k < t.files.length) (f : File) (n j : Nat) : fileAt { t with files := t.files.set k f, acts := n } j = if j = k then f else fileAt t j := by
 unfold fileAt
 simp only [List.getD_eq_getElem?_getD]
 by_cases h : j = k
 ·subst h
  rw [if_pos rfl, List.getElem?_set_self hk]
  rfl
 ·rw [if_neg h, List.getElem?_set_ne (by omega)]
theorem now_snoc (f : File) (a : Act) : now ⟨f.sure, f.row ++ [a]⟩ = done (now f) a := by unfold now; rw [List.foldl_append]; rfl
section
variable {t u : St} {k : Nat}
theorem lens_set {d : Dir} (h : ∀ j, j ≠ k → len u j = len t j) (hn : (d.map (·.2)).Nodup) : (k ∉ d.map (·.2) → lens u d = lens t d) ∧ (k ∈ d.map (·.2) → lens u d + len t k = lens t d + len u k) := by
 induction d with
 | nil => exact ⟨fun _ => rfl, fun h => by cases h⟩
 | cons e d ih =>
  rw [List.map_cons, List.nodup_cons] at hn
  obtain ⟨i1, i2⟩ := ih hn.2
  have e1 : ∀ v : St, lens v (e :: d) = len v e.2 + lens v d := fun v => by unfold lens; rw [List.map_cons, List.sum_cons]
  rw [e1, e1, List.map_cons]
  constructor
  ·intro hk
   rw [List.mem_cons, not_or] at hk
   rw [h _ (Ne.symm hk.1), i1 hk.2]
  ·intro hk
   by_cases he : e.2 = k
   ·have := i1 (by rw [← he]; exact hn.1)
    rw [he, this]; omega
   ·have := i2 ((List.mem_cons.1 hk).resolve_left (Ne.symm he))
    rw [h _ he]; omega
theorem find_num {d : Dir} {s : ByteArray} (h : find d s = some k) : k ∈ d.map (·.2) := by
 unfold find at h
 obtain ⟨e, he, rfl⟩ := Option.map_eq_some_iff.1 h
 exact List.mem_map.2 ⟨e, List.mem_of_find?_eq_some he, rfl⟩
theorem get_find {s : ByteArray} (h : get t s = (k, 0)) : t.dead = false ∧ find t.seen s = some k := by
 unfold get at h
 by_cases hd : t.dead = true
 ·rw [if_pos hd] at h; cases (Prod.mk.inj h).2
 ·rw [if_neg hd] at h
  refine ⟨by simpa using hd, ?_⟩
  cases hq : find t.seen s with
  | none => rw [hq] at h; cases (Prod.mk.inj h).2
  | some n => rw [hq] at h; rw [(Prod.mk.inj h).1]
theorem get_of {s : ByteArray} (hd : t.dead = false) (h : find t.seen s = some k) : get t s = (k, 0) := by
 unfold get
 rw [if_neg (by rw [hd]; simp), h]
theorem used_set {s : ByteArray} (hg : get t s = (k, 0)) (hn : (t.seen.map (·.2)).Nodup) (hs : u.seen = t.seen) (hd : u.dead = false) (h : ∀ j, j ≠ k → len u j = len t j) : used u + len t k = used t + len u k := by
 obtain ⟨h1, h2⟩ := get_find hg
 unfold used
 rw [if_neg (by rw [hd]; simp), if_neg (by rw [h1]; simp), hs]
 exact (lens_set h hn).2 (find_num h2)
theorem size_get {s : ByteArray} (hg : get t s = (k, 0)) : size t s = (len t k, 0) := by unfold size; rw [hg, if_neg (by simp)]
end
structure On (s : ByteArray) (k : Nat) (t u : St) : Prop where
 but : Pp.But k t u
 get : get u s = (k, 0)
 fuse : u.fuse = 0
 acts : t.acts ≤ u.acts
 has : k < u.files.length
 nums : (u.seen.map (·.2)).Nodup
section
variable {t u : St} {k : Nat} {s : ByteArray}
theorem On.put (h : On s k t u) (a : Act) : On s k t (put u k a) ∧ now (fileAt (Sf.put u k a) k) = done (now (fileAt u k)) a ∧ (Sf.put u k a).acts = u.acts + 1 ∧ used (Sf.put u k a) + len u k = used u + len (Sf.put u k a) k := by
 have hf : ∀ j, fileAt (Sf.put u k a) j = if j = k then ⟨(fileAt u k).sure, (fileAt u k).row ++ [a]⟩ else fileAt u j := fun j => fileAt_set h.has _ _ j
 have hgf := get_find h.get
 have hg : Sf.get (Sf.put u k a) s = (k, 0) := get_of hgf.1 hgf.2
 refine ⟨⟨⟨h.but.room, ?_, fun j hj => ?_, h.but.sure, h.but.row, h.but.seen⟩, hg, h.fuse, ?_, ?_, h.nums⟩, ?_, rfl, ?_⟩
 ·show (u.files.set k _).length = _
  rw [List.length_set]; exact h.but.len
 ·rw [hf j, if_neg hj]; exact h.but.file j hj
 ·have := h.acts; show t.acts ≤ u.acts + 1; omega
 ·show k < (u.files.set k _).length
  rw [List.length_set]; exact h.has
 ·rw [hf k, if_pos rfl, now_snoc]
 ·refine used_set (u := Sf.put u k a) h.get h.nums rfl hgf.1 (fun j hj => ?_)
  unfold len; rw [hf j, if_neg hj]
theorem On.syn (h : On s k t u) : On s k t (syn u k) ∧ fileAt (Sf.syn u k) k = ⟨now (fileAt u k), []⟩ ∧ (Sf.syn u k).acts = u.acts + 1 ∧ used (Sf.syn u k) = used u := by
 have hf : ∀ j, fileAt (Sf.syn u k) j = if j = k then ⟨now (fileAt u k), []⟩ else fileAt u j := fun j => fileAt_set h.has _ _ j
 have hgf := get_find h.get
 have hg : Sf.get (Sf.syn u k) s = (k, 0) := get_of hgf.1 hgf.2
 refine ⟨⟨⟨h.but.room, ?_, fun j hj => ?_, h.but.sure, h.but.row, h.but.seen⟩, hg, h.fuse, ?_, ?_, h.nums⟩, by rw [hf k, if_pos rfl], rfl, ?_⟩
 ·show (u.files.set k _).length = _
  rw [List.length_set]; exact h.but.len
 ·rw [hf j, if_neg hj]; exact h.but.file j hj
 ·have := h.acts; show t.acts ≤ u.acts + 1; omega
 ·show k < (u.files.set k _).length
  rw [List.length_set]; exact h.has
 ·have h1 := used_set (u := Sf.syn u k) h.get h.nums rfl hgf.1 (fun j hj => by unfold len; rw [hf j, if_neg hj])
  have h2 : len (Sf.syn u k) k = len u k := by
   unfold len; rw [hf k, if_pos rfl]; rfl
  omega
end
end Sf
end Go.Proofs.YtiafeniflkikeaaGreat
