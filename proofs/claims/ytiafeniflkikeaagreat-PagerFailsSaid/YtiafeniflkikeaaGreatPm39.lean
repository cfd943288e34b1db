/- Parts of the proof. -/
import Derived.Test.YtiafeniflkikeaaGreatPm13
import Derived.Test.YtiafeniflkikeaaGreatPm30
import Derived.Test.YtiafeniflkikeaaGreatPm26
import Derived.Test.YtiafeniflkikeaaGreatPm21
import Derived.Test.YtiafeniflkikeaaGreatPm23
namespace Go.Proofs.YtiafeniflkikeaaGreat
open Go.RowKit
set_option linter.unusedVariables false
section
variable {w w' : World} {fp fd : Fp} {s : Pp.S} {F : List Nat} {b bf U D P H last frm : Nat} {fP : Int → Option RawU} {fH fH' : Int → Option RawH} {t : Sf.St}
theorem PyHas.more (h : PyHas w fp s F b bf U D P H last frm fP fH) {k : Nat} (hk : s.turns ≤ k) : PyHas w fp { s with turns := k } F b bf U D P H last frm fP fH :=
 ⟨h.head, h.used, h.drop, h.pend, h.hand, h.hpend, h.there, h.hhand, h.few, Nat.le_trans h.last hk, h.from2, h.full, ⟨h.sound.root, h.sound.rise, h.sound.from2, h.sound.told, h.sound.big, h.sound.cache, h.sound.name⟩, h.m, h.r, h.sb, h.su, h.sd, h.sp⟩
theorem PyHas.kept {n : Int} {u : RawU} (h : PyHas w fp s F b bf U D P H last frm fP fH) (hk : IsKept b bf U D P H last frm s fH n u w w') (B : Nat → Prop) (hB : ∀ k, fp.R k → B k) (hB2 : ∀ k, B k → ¬ fp.M k ∧ k < w'.heap.size)
  (hx : ∃ x ∈ s.l, (x.n : Int) = n ∧ x.state ≠ 2) {kind : Nat} {body : List Nat} (hu : InB w' B u kind body) (hr : Pp.rdE F n.toNat = (kind, body, 0)) :
  ∃ fH', PyHas w' ⟨fp.M, B⟩ { s with turns := s.turns + 1 } F b bf U D P H (last + 1) frm fP fH' := by
 obtain ⟨fN, h1, h2, h3, h4, hT⟩ := hk
 have hmb := h.ms
 have hno : ∀ q, fp.R q → ¬ (q = b ∨ q = H) := fun q hq he => by
  rcases he with rfl | rfl
  ·exact (h.r _ hq).1 hmb.1
  ·exact (h.r _ hq).1 hmb.2.2.2.2
 refine ⟨fN, h1, h.used.turned_ hT (by have := h.sb; have := h.su; omega), h.drop.turned_ hT (by have := h.sb; have := h.sd; omega), h.pend.turned_ hT (by have := h.sb; have := h.sp; omega), h2, fun k c hc => ?_, h.there, fun k c hc => ?_, h4, Nat.add_le_add_right h.last 1, h.from2, h.full,
  ⟨h.sound.root, h.sound.rise, h.sound.from2, h.sound.told, h.sound.big, h.sound.cache, h.sound.name⟩, h.m, hB2, h.sb, h.su, h.sd, h.sp⟩
 ·obtain ⟨x, a1, a2, a3, a4⟩ := h.hpend k c hc
  exact ⟨x, a1, a2, a3, (a4.turned hT hno).more hB⟩
 ·rcases h3 k c hc with ⟨rfl, rfl⟩ | h5
  ·exact ⟨hx, by show (last : Int) + 1 ≤ ((last + 1 : Nat) : Int); omega, kind, body, hu, hr⟩
  ·obtain ⟨a1, a2, kd, bd, a3, a4⟩ := h.hhand k c h5
   exact ⟨a1, by omega, kd, bd, (a3.turned hT hno).more hB, a4⟩
def IsFound (fp : Fp) (s : Pp.S) (F : List Nat) (b bf : Nat) (r : Nat × List Nat × Nat) (w : World) (e : Ending) (w' : World) : Prop :=
 ∃ (u : RawU) (fp' : Fp), e = .returned (.tuple #[uV u, .int .i64 (r.2.2 : Nat)]) ∧ (r.2.2 = 0 → InB w' fp'.R u r.1 r.2.1) ∧ (r.2.2 ≠ 0 → r.1 = 0 ∧ r.2.1 = []) ∧ PPager w' fp' { s with turns := s.turns + 1 } F b bf ∧ fp.Next fp' w.heap.size ∧ Turned fp.M w w'
theorem IsFound.bad {r : Nat × List Nat × Nat} {er : Nat} {x : Int} (h : PyHas w fp s F b bf U D P H last frm fP fH) (hr : r = (0, [], er)) (he : er ≠ 0) (hx : x = (er : Int)) (hb : Below w.heap.size w w') :
  IsFound fp s F b bf r w (.returned (.tuple #[.agg #[.int .u8 0, .slice none 0 0], .int .i64 x])) w' := by
 subst hr hx
 exact ⟨⟨0, ⟨none, 0, 0⟩⟩, fp, rfl, fun h => absurd h he, fun _ => ⟨rfl, rfl⟩, ⟨_, _, _, _, _, _, _, _, (h.below hb).more (Nat.le_succ _)⟩, Fp.Next.refl _ _, (Turned.of_below hb).mono (fun q hq h => absurd hq (by omega))⟩
theorem place_read {k n : Nat} {name : ByteArray} (hd : t.dead = false) (hg : Sf.get t name = (k, 0)) (hF : Sf.now (Sf.fileAt t k) = F) :
  Sf.read t name ((512 * n : Nat) : Int) 512 = if F.length < 512 * n then ([], 2) else (Pp.pageOf F n, 0) := by
 unfold Sf.read Sf.len
 rw [hg, if_neg (by simp)]
 simp only [hF]
 by_cases h : F.length < 512 * n
 ·rw [if_pos h, if_pos (by omega)]
 ·rw [if_neg h, if_neg (by omega)]
  rfl
theorem getE_facts {n : Int} {k : Nat} {b c : List Nat} (hb : ∀ x ∈ b, x < 256) (h : Pg.getE n b = (k, c, 0)) : k < 256 ∧ c.length ≤ 496 := by
 by_cases h0 : n < 0 ∨ 65536 ≤ n
 ·rw [Pg.getE_arg h0] at h; simp at h
 by_cases h1 : b.length < 512
 ·rw [Pg.getE_short h0 h1] at h; simp at h
 by_cases h2 : 512 < b.length
 ·rw [Pg.getE_long h0 h1 h2] at h; simp at h
 by_cases h3 : b.take 4 = four (Cr.of (b.drop 4))
 ·by_cases h4 : 496 < Pg.size b
  ·rw [Pg.getE_size h0 h1 h2 h3 h4] at h; simp at h
  by_cases h5 : Pg.page n.toNat (b.getD 8 0) (Pg.body b) = b
  ·rw [Pg.getE_ok h0 h1 h2 h3 h4 h5] at h
   simp only [Prod.mk.injEq, and_true] at h
   obtain ⟨rfl, rfl⟩ := h
   refine ⟨?_, by unfold Pg.body; rw [List.length_take]; omega⟩
   rw [List.getD_eq_getElem?_getD, List.getElem?_eq_getElem (by omega)]
   exact hb _ (List.getElem_mem _)
  ·rw [Pg.getE_form h0 h1 h2 h3 h4 h5] at h; simp at h
 ·rw [Pg.getE_sum h0 h1 h2 h3] at h; simp at h
theorem rdE_read {n : Nat} (hn : n < 65536) (h : ¬ F.length < 512 * n) : Pp.rdE F n = Pg.getE n (Pp.pageOf F n) := by
 unfold Pp.rdE
 rw [if_neg h]
 split
 ·rename_i h2
  refine (Pg.getE_short (by omega) ?_).symm
  unfold Pp.pageOf
  rw [List.length_take, List.length_drop]
  omega
 ·rfl
end
section
variable {w : World} {fp fd : Fp} {s : Pp.S} {F : List Nat} {b bf U D P H last frm : Nat} {fP : Int → Option RawU} {fH : Int → Option RawH} {t : Sf.St}
set_option maxHeartbeats 4000000 in
set_option maxRecDepth 100000 in
theorem pyfetch_any (h : PyHas w fp s F b bf U D P H last frm fP fH) (hD : PDisk w fd t bf) (hd : t.dead = false) (k : Nat) (hg : Sf.get t s.name = (k, 0)) (hF : Sf.now (Sf.fileAt t k) = F) (htn : s.turns < 2305843009213693952) (n : Nat)
  (hx : ∃ x ∈ s.l, x.n = n ∧ x.state ≠ 2) :
  Calls Tryz.prog 104 #[.pointer (some ⟨b, 0, none⟩), .int .i64 (n : Nat)] w (IsFound fp s F b bf (Pp.rdE F n) w) := by
 have hn : n < 65536 := by obtain ⟨x, h1, h2, _⟩ := hx; have := h.sound.from2 x h1; omega
 obtain ⟨W, hW⟩ : ∃ W, w.alloc (.cells #[.int .u8 0, .slice none 0 0] 108) = W := ⟨_, rfl⟩
 have hb : Below w.heap.size w W := by rw [← hW]; exact (Below.refl _ _).alloc (Nat.le_refl _) _
 have hbd : Below w.heap.size w W.drew := below_drewN hb 1
 have HW0 : Hid (Rw W.drew w.heap.size 108 #[.int .u8 0, .slice none 0 0]) := by unfold Hid; rw [← hW]; exact Rw.new w _ _
 have hWD := pdisk_law.below hD hbd
 obtain ⟨X, hX⟩ : ∃ X, W.drew = X := ⟨_, rfl⟩
 rw [hX] at hbd HW0 hWD
 have HBX := Lib.hid hbd
 have HHX := Lib.hid (h.below hbd)
 have HC : Hid (∀ w', Below X.heap.size X w' → w'.cell? ⟨b, 0, none⟩ = some (.pointer (some ⟨bf, 0, none⟩)) ∧ w'.cell? ⟨b, 1, none⟩ = some (.string s.name)) := fun w' hw' =>
  ⟨(HHX.out.below hw').cell rfl, (HHX.out.below hw').cell rfl⟩
 have CP := Lib.hid (pyplace_any n (by omega) X)
 have CR := Lib.hid (pread_any hWD s.name h.sound.name ((512 * n : Nat) : Int) 512 (by unfold I64; omega) (by unfold I64; omega))
 rw [place_read hd hg hF] at CR
 obtain ⟨lb, eb, hre⟩ : ∃ lb eb, (if F.length < 512 * n then (([] : List Nat), 2) else (Pp.pageOf F n, 0)) = (lb, eb) := ⟨_, _, rfl⟩
 rw [hre] at CR
 have HRE := Lib.hid hre
 have hz2 := ct_built0
 have hct : (Tryz.prog.info? 108).map (·.size) = some (#[.int .u8 0, .slice none 0 0] : Array Value).size := ct_size
 have hone : (#[.int .u8 0, .slice none 0 0] : Array Value).all (·.oneCell') = true := by simp [Value.oneCell']
 have HH := Lib.hid h
 have HX := Lib.hid hx
 have HN := Lib.hid (And.intro hn htn)
 obtain ⟨nm, hnm⟩ : ∃ nm, s.name = nm := ⟨_, rfl⟩
 rw [hnm] at HC CR
 clear h hD hd hg hF htn hx hn hb hbd hWD hnm hre
 go_enter Tryz.func104, Tryz.ntmps104
 go_wp2_with fail
 refine wp_region_m (fun w' => Below X.heap.size X w') 16 (by kernel_rfl) ?_
 rw [hX]
 have hH : Below X.heap.size X X := Below.refl _ _
 refine zM (i := 0) (v := ?_) rfl (by kernel_rfl) (fun _ _ _ h => h) hH (Or.inl ⟨by rfl, (by intro w' hSw; have s0 := HC.out w' hSw; go_simp; first | done | with_reducible rfl)⟩) ?_
 try simp only [Act.put, zA, zC, zD, zE, zF]
 refine zM (i := 1) (v := ?_) rfl (by kernel_rfl) (fun _ _ _ h => h) hH (Or.inl ⟨by rfl, (by intro w' hSw; have s0 := HC.out w' hSw; go_simp; first | done | with_reducible rfl)⟩) ?_
 try simp only [Act.put, zA, zB, zC, zD, zE, zF]
 refine zM (i := 2) (v := ?_) rfl (by kernel_rfl) (fun _ _ _ h => h) hH (Or.inl ⟨by rfl, (by intro w' hSw; have s0 := HC.out w' hSw; go_simp; first | done | with_reducible rfl)⟩) ?_
 try simp only [Act.put, zA, zB, zC, zD, zE, zF]
 refine zM (i := 3) (v := ?_) rfl (by kernel_rfl) (fun _ _ _ h => h) hH (Or.inl ⟨by rfl, (by intro w' hSw; have s0 := HC.out w' hSw; go_simp; first | done | with_reducible rfl)⟩) ?_
 try simp only [Act.put, zA, zB, zC, zD, zE, zF]
 refine zM (i := 4) (v := ?_) rfl (by kernel_rfl) (fun _ _ _ h => h) hH (Or.inl ⟨by rfl, (by intro w' hSw; have s0 := HC.out w' hSw; go_simp; first | done | with_reducible rfl)⟩) ?_
 try simp only [Act.put, zA, zB, zC, zD, zE, zF]
 refine zM (i := 5) (v := ?_) rfl (by kernel_rfl) (fun _ _ _ h => h) hH (Or.inl ⟨by rfl, (by intro w' hSw; have s0 := HC.out w' hSw; go_simp; first | done | with_reducible rfl)⟩) ?_
 try simp only [Act.put, zA, zB, zC, zD, zE, zF]
 refine zM (i := 6) (v := ?_) rfl (by kernel_rfl) (fun _ _ _ h => h) hH (Or.inl ⟨by rfl, (by intro w' hSw; have s0 := HC.out w' hSw; go_simp; first | done | with_reducible rfl)⟩) ?_
 try simp only [Act.put, zA, zB, zC, zD, zE, zF]
 refine zM (i := 7) (v := ?_) rfl (by kernel_rfl) (fun _ _ _ h => h) hH (Or.inl ⟨by rfl, (by intro w' hSw; have s0 := HC.out w' hSw; go_simp; first | done | with_reducible rfl)⟩) ?_
 try simp only [Act.put, zA, zB, zC, zD, zE, zF]
 refine zM (i := 8) (v := ?_) rfl (by kernel_rfl) (fun _ _ _ h => h) hH (Or.inl ⟨by rfl, (by intro w' hSw; have s0 := HC.out w' hSw; go_simp; first | done | with_reducible rfl)⟩) ?_
 try simp only [Act.put, zA, zB, zC, zD, zE, zF]
 refine wpAnyM_next (i := 9) (by kernel_rfl) rfl (fun K hK => ?_)
 go_simp
 refine CP.out.mono ?_
 rintro e w1 ⟨rfl, rfl⟩
 refine hK.out _ _ (.inr hH) ?_
 clear hK K CP
 try simp only [Act.put, zA, zB, zC, zD, zE, zF]
 refine wpAnyM_next (i := 10) (by kernel_rfl) rfl (fun K hK => ?_)
 go_simp
 refine CR.out.mono ?_
 rintro e w2 ⟨A, c, rfl, ho, b2⟩
 refine hK.out _ _ (.inr b2) ?_
 clear hK K CR
 try simp only []
 refine zM (i := 11) (v := ?_) rfl (by kernel_rfl) (fun _ _ _ h => h) b2 (Or.inl ⟨by rfl, (by intro w' hSw; skip; go_simp; first | done | with_reducible rfl)⟩) ?_
 try simp only [Act.put, zA, zB, zC, zD, zE, zF]
 refine zM (i := 12) (v := ?_) rfl (by kernel_rfl) (fun _ _ _ h => h) b2 (Or.inl ⟨by rfl, (by intro w' hSw; skip; go_simp; first | done | with_reducible rfl)⟩) ?_
 try simp only [Act.put, zA, zB, zC, zD, zE, zF]
 refine zM (i := 13) (v := ?_) rfl (by kernel_rfl) (fun _ _ _ h => h) b2 (Or.inl ⟨by rfl, (by intro w' hSw; skip; go_simp; first | done | with_reducible rfl)⟩) ?_
 try simp only [Act.put, zA, zB, zC, zD, zE, zF]
 refine zM (i := 14) (v := ?_) rfl (by kernel_rfl) (fun _ _ _ h => h) b2 (Or.inl ⟨by rfl, (by intro w' hSw; skip; go_simp; first | done | with_reducible rfl)⟩) ?_
 try simp only [Act.put, zA, zB, zC, zD, zE, zF]
 refine zM (i := 15) (v := ?_) rfl (by kernel_rfl) (fun _ _ _ h => h) b2 (Or.inl ⟨by rfl, (by intro w' hSw; skip; go_simp; first | done | with_reducible rfl)⟩) ?_
 try simp only [Act.put, zA, zB, zC, zD, zE, zF]
 refine wpAnyM_done (by kernel_rfl) ?_ _
 have HO := Lib.hid ho
 have HB2 := Lib.hid b2
 have HW2 : Hid (Rw w2 w.heap.size 108 #[.int .u8 0, .slice none 0 0]) := HW0.out.below b2 HW0.out.lt
 have HH2 := Lib.hid (HHX.out.below b2)
 have HBW := Lib.hid (HBX.out.trans (b2.mono HBX.out.size))
 clear hH ho b2 hX hW
 by_cases he : eb = 0
 ·subst he
  have hlb : F.length < 512 * n ∨ (¬ F.length < 512 * n ∧ lb = Pp.pageOf F n) := by
   by_cases hc : F.length < 512 * n
   ·exact .inl hc
   ·have := HRE.out; rw [if_neg hc] at this; exact .inr ⟨hc, (Prod.mk.inj this).1.symm⟩
  have hlb : ¬ F.length < 512 * n ∧ lb = Pp.pageOf F n := by
   rcases hlb with hc | h
   ·have := HRE.out; rw [if_pos hc] at this; cases (Prod.mk.inj this).2
   ·exact h
  have HRD : Hid (Pp.rdE F n = Pg.getE (n : Nat) lb) := by unfold Hid; rw [hlb.2]; exact rdE_read HN.out.1 hlb.1
  have CG := Lib.hid (ppgget_any (n : Nat) (.slice A lb.length c) lb w2.heap.size w2 (HO.out.form_) (Nat.le_refl _))
  obtain ⟨kd, bd, eg, hge⟩ : ∃ kd bd eg, Pg.getE (n : Nat) lb = (kd, bd, eg) := ⟨_, _, _, rfl⟩
  rw [hge] at CG HRD
  have HGE := Lib.hid hge
  clear hge hlb
  go_wp2_with fail
  refine CG.out.mono ?_
  rintro e w3 ⟨A3, c3, rfl, ho3, b3⟩
  have HO3 := Lib.hid ho3
  have HW3 : Hid (Rw w3 w.heap.size 108 #[.int .u8 0, .slice none 0 0]) := HW2.out.below b3 HW2.out.lt
  have HH3 := Lib.hid (HH2.out.below b3)
  have HB3 := Lib.hid (HBW.out.trans (b3.mono HBW.out.size))
  clear CG ho3 b3
  simp only
  by_cases he : eg = 0
  ·subst he
   have hbt := ct_built kd A3 bd.length c3
   obtain ⟨Y0, hY0⟩ : ∃ Y, w3.alloc (.cells #[.int .u8 (kd : Nat), .slice A3 bd.length c3] 108) = Y := ⟨_, rfl⟩
   have hYr : Rw Y0 w3.heap.size 108 #[.int .u8 (kd : Nat), .slice A3 bd.length c3] := by rw [← hY0]; exact Rw.new w3 _ _
   have hYb : Below w3.heap.size w3 Y0 := by rw [← hY0]; exact (Below.refl _ _).alloc (Nat.le_refl _) _
   obtain ⟨Y, hY⟩ : ∃ Y, Y0.drew = Y := ⟨_, rfl⟩
   have HYR : Hid (Rw Y w3.heap.size 108 #[.int .u8 (kd : Nat), .slice A3 bd.length c3]) := by unfold Hid; rw [← hY]; exact hYr
   have HYB : Hid (Below w3.heap.size w3 Y) := by unfold Hid; rw [← hY]; exact below_drewN hYb 1
   have HHY := Lib.hid (HH3.out.below HYB.out)
   have k0 : Y.cell? ⟨w3.heap.size, 0, none⟩ = some (.int .u8 (kd : Nat)) := HYR.out.cell 0
   have k1 : Y.cell? ⟨w3.heap.size, 1, none⟩ = some (.slice A3 bd.length c3) := HYR.out.cell 1
   have CK := Lib.hid (pykeep_any HHY.out.head HHY.out.hand HHY.out.sb.2.2.2 HHY.out.small_hand HHY.out.few HHY.out.sound.cache (fun k c hc => (HHY.out.hhand k c hc).2.1) (by have := HHY.out.last; have := HN.out; omega) n HN.out.1 ⟨kd, ⟨A3, bd.length, c3⟩⟩)
   clear hYr hYb
   go_wp2_with ((with_reducible refine gate_build 108 ?_); refine wpList_build_atT rfl _ _ rfl _ hbt ?_)
   refine wp_region_m (fun w' => w' = Y) 5 (by kernel_rfl) ?_
   rw [hY]
   have hH : Y = Y := rfl
   refine zM (i := 0) (v := ?_) rfl (by kernel_rfl) (fun _ _ _ h => h) hH (Or.inl ⟨by rfl, (by intro w' hSw; rw [hSw]; go_simp; first | done | with_reducible rfl)⟩) ?_
   try simp only [Act.put, zA, zC, zD, zE, zF]
   refine zM (i := 1) (v := ?_) rfl (by kernel_rfl) (fun _ _ _ h => h) hH (Or.inl ⟨by rfl, (by intro w' hSw; rw [hSw]; go_simp; first | done | with_reducible rfl)⟩) ?_
   try simp only [Act.put, zA, zB, zC, zD, zE, zF]
   refine zM (i := 2) (v := ?_) rfl (by kernel_rfl) (fun _ _ _ h => h) hH (Or.inl ⟨by rfl, (by intro w' hSw; rw [hSw]; go_simp; first | done | with_reducible rfl)⟩) ?_
   try simp only [Act.put, zA, zB, zC, zD, zE, zF]
   refine zM (i := 3) (v := ?_) rfl (by kernel_rfl) (fun _ _ _ h => h) hH (Or.inl ⟨by rfl, (by intro w' hSw; rw [hSw]; go_simp; first | done | with_reducible rfl)⟩) ?_
   try simp only [Act.put, zA, zB, zC, zD, zE, zF]
   refine zM (i := 4) (v := ?_) rfl (by kernel_rfl) (fun _ _ _ h => h) hH (Or.inl ⟨by rfl, (by intro w' hSw; rw [hSw]; go_simp; first | done | with_reducible rfl)⟩) ?_
   try simp only [Act.put, zA, zB, zC, zD, zE, zF]
   refine wpAnyM_next (i := 5) (by kernel_rfl) rfl (fun K hK => ?_)
   go_simp
   refine CK.out.mono ?_
   rintro e w4 ⟨rfl, hkept⟩
   refine hK.out _ _ (.inl (Nat.le_refl _)) ?_
   clear hK K CK k0 k1 hH hbt hY hY0
   try simp only [Act.put, zA, zB, zC, zD, zE, zF]
   refine wpAnyM_done (by kernel_rfl) ?_ _
   have HKP : Hid (IsKept b bf U D P H last frm s fH (n : Int) ⟨kd, ⟨A3, bd.length, c3⟩⟩ Y w4) := hkept
   obtain ⟨fN, _, _, _, _, hT4⟩ := hkept
   have HT4 := Lib.hid hT4
   have hbl := HH.out.lts
   have hno : ∀ q, w.heap.size ≤ q → ¬ (q = b ∨ q = H) := fun q hq h => by omega
   have hs3 := HB3.out.size
   have HW4 : Hid (Rw w4 w.heap.size 108 #[.int .u8 0, .slice none 0 0]) := (hT4.block _ (HW3.out.below HYB.out HW3.out.lt).lt (hno _ (Nat.le_refl _))).trans (HW3.out.below HYB.out HW3.out.lt)
   have hK4 : Rw w4 w3.heap.size 108 #[.int .u8 (kd : Nat), .slice A3 bd.length c3] := (hT4.block _ HYR.out.lt (hno _ hs3)).trans HYR.out
   have k0 : w4.cell? ⟨w3.heap.size, 0, none⟩ = some (.int .u8 (kd : Nat)) := hK4.cell 0
   have k1 : w4.cell? ⟨w3.heap.size, 1, none⟩ = some (.slice A3 bd.length c3) := hK4.cell 1
   have hct2 : (Tryz.prog.info? 108).map (·.size) = some (#[.int .u8 (kd : Nat), .slice A3 bd.length c3] : Array Value).size := ct_size
   have hone2 : (#[.int .u8 (kd : Nat), .slice A3 bd.length c3] : Array Value).all (·.oneCell') = true := by simp [Value.oneCell']
   have hsz2 : (#[.int .u8 0, .slice none 0 0] : Array Value).size = (#[.int .u8 (kd : Nat), .slice A3 bd.length c3] : Array Value).size := rfl
   clear hno hs3 hbl hT4 hK4 hz2 hct hone
   go_wp2_with ((with_reducible refine gate_store 108 ?_); refine wpList_store_row rfl 108 _ _ rfl w.heap.size #[.int .u8 (kd : Nat), .slice A3 bd.length c3] rfl rfl 108 #[.int .u8 0, .slice none 0 0] HW4.out hct2 hsz2 hone2 ?_)
   have HR2 := Lib.hid (Rw.row HW4.out #[.int .u8 (kd : Nat), .slice A3 bd.length c3])
   have HX2 : Hid (Turned (fun q => q = w.heap.size) w4 (w4.setRow w.heap.size #[.int .u8 (kd : Nat), .slice A3 bd.length c3])) := (Turned.refl (fun q => q = w.heap.size) w4).setRow (fun _ => rfl) _
   generalize w4.setRow w.heap.size #[.int .u8 (kd : Nat), .slice A3 bd.length c3] = X2 at *
   try go_wp2
   refine bodyPost_ret (v := .tuple #[.agg #[.int .u8 (kd : Nat), .slice A3 bd.length c3], .int .i64 0]) (results_ct rfl _ _ w.heap.size #[.int .u8 (kd : Nat), .slice A3 bd.length c3] (.int .i64 0) _ rfl rfl rfl HR2.out) rfl ?_
   have hbl := HH.out.lts
   have hs2 : w.heap.size < w2.heap.size := HW2.out.lt
   have hs3 : w3.heap.size ≤ Y.heap.size := HYB.out.size
   have hs4 : Y.heap.size ≤ w4.heap.size := HT4.out.size
   have hown : ∀ k, (Value.slice A3 bd.length c3).ownBlock = some k → w2.heap.size ≤ k ∧ k < w3.heap.size := fun k hk => OwnL.lt_ HO3.out k hk
   have hf := getE_facts (fun x hx => HO.out.1 x hx) HGE.out
   have hno : ∀ q, w.heap.size ≤ q → ¬ (q = b ∨ q = H) := fun q hq h => by omega
   have hin : InB w4 (fun k => fp.R k ∨ (Value.slice A3 bd.length c3).ownBlock = some k) ⟨kd, ⟨A3, bd.length, c3⟩⟩ kd bd :=
    ⟨rfl, hf.1, (((HO3.out.form_).below_ HYB.out (Nat.le_refl _)).turnedB_ HT4.out (fun _ k hk => hno k (by have := hown k hk; omega))).mono_ (by omega), hf.2, fun _ k hk => .inr hk⟩
   have hMM : ∀ k, fp.M k → k < w.heap.size := fun k hk => HH.out.lt k (.inl hk)
   obtain ⟨fK, hK4⟩ := PyHas.kept HHY.out HKP.out (fun k => fp.R k ∨ (Value.slice A3 bd.length c3).ownBlock = some k) (fun k hk => .inl hk) (fun k hk => by
    rcases hk with hk | hk
    ·have := HH.out.r k hk
     have := HBW.out.size
     have := HO3.out.form_
     exact ⟨(HH.out.r k hk).1, by have := HB3.out.size; omega⟩
    ·have := hown k hk
     exact ⟨fun hm => by have := hMM k hm; omega, by omega⟩) (by obtain ⟨x, h1, h2, h3⟩ := HX.out; exact ⟨x, h1, by rw [h2], h3⟩) hin (by rw [Int.toNat_natCast]; exact HRD.out)
   have hK5 := hK4.turned HX2.out (fun q hq => by
    subst hq
    refine ⟨fun hm => by have := hMM _ hm; omega, fun hr => ?_⟩
    rcases hr with hr | hr
    ·have := (HH.out.r _ hr).2; omega
    ·have := hown _ hr; omega)
   rw [HRD.out]
   refine ⟨⟨kd, ⟨A3, bd.length, c3⟩⟩, ⟨fp.M, fun k => fp.R k ∨ (Value.slice A3 bd.length c3).ownBlock = some k⟩, rfl, fun _ => ?_, fun h => absurd rfl h, ⟨_, _, _, _, _, _, _, _, hK5⟩, ⟨fun k hk => .inl hk, fun k hk => hk.imp id (fun h => by have := hown k h; omega)⟩, ?_⟩
   ·refine hin.turned HX2.out (fun k hk he => ?_)
    subst he
    rcases hk with hr | hr
    ·have := (HH.out.r _ hr).2; omega
    ·have := hown _ hr; omega
   ·have hb4 : Turned fp.M w w4 := ((Turned.of_below (HB3.out.trans (HYB.out.mono HB3.out.size))).mono (G := fp.M) (fun q hq h => absurd hq (by omega))).trans HT4.out (fun q _ h => by rcases h with rfl | rfl; exact HH.out.ms.1; exact HH.out.ms.2.2.2.2)
    exact hb4.trans HX2.out (fun q hq h => absurd hq (by omega))
  ·have hge : kd = 0 ∧ bd = [] := Pg.getE_bad HGE.out he
   obtain ⟨rfl, rfl⟩ := hge
   have hne : ((eg : Int) == 0) = false := by rw [beq_eq_false_iff_ne]; omega
   have HNE := Lib.hid he
   clear he
   go_wp2_with (first
    | ((with_reducible refine gate_build 108 ?_); refine wpList_build_atT rfl _ _ rfl _ hz2 ?_)
    | ((with_reducible refine gate_store 108 ?_); refine wpList_store_row rfl 108 _ _ rfl w.heap.size #[.int .u8 0, .slice none 0 0] rfl rfl 108 #[.int .u8 0, .slice none 0 0] HW3.out hct rfl hone ?_))
   have HR2 := Lib.hid (And.intro (Rw.row HW3.out #[.int .u8 0, .slice none 0 0]) (below_setRow HB3.out (Nat.le_refl w.heap.size) #[.int .u8 0, .slice none 0 0]))
   generalize w3.setRow w.heap.size #[.int .u8 0, .slice none 0 0] = X2 at *
   try go_wp2
   refine bodyPost_ret (v := .tuple #[.agg #[.int .u8 0, .slice none 0 0], .int .i64 (eg : Nat)]) (results_ct rfl _ _ w.heap.size #[.int .u8 0, .slice none 0 0] (.int .i64 (eg : Nat)) _ rfl rfl rfl HR2.out.1) rfl ?_
   exact IsFound.bad HH.out HRD.out HNE.out rfl HR2.out.2
 ·have HEB : Hid (F.length < 512 * n ∧ eb = 2) := by
   by_cases hc : F.length < 512 * n
   ·have := HRE.out; rw [if_pos hc] at this; exact ⟨hc, (Prod.mk.inj this).2.symm⟩
   ·have := HRE.out; rw [if_neg hc] at this; exact absurd (Prod.mk.inj this).2.symm he
  have he2 := HEB.out.2
  subst he2
  clear he
  go_wp2_with (first
   | ((with_reducible refine gate_build 108 ?_); refine wpList_build_atT rfl _ _ rfl _ hz2 ?_)
   | ((with_reducible refine gate_store 108 ?_); refine wpList_store_row rfl 108 _ _ rfl w.heap.size #[.int .u8 0, .slice none 0 0] rfl rfl 108 #[.int .u8 0, .slice none 0 0] HW2.out hct rfl hone ?_))
  have HR2 := Lib.hid (And.intro (Rw.row HW2.out #[.int .u8 0, .slice none 0 0]) (below_setRow HBW.out (Nat.le_refl w.heap.size) #[.int .u8 0, .slice none 0 0]))
  generalize w2.setRow w.heap.size #[.int .u8 0, .slice none 0 0] = X2 at *
  try go_wp2
  refine bodyPost_ret (v := .tuple #[.agg #[.int .u8 0, .slice none 0 0], .int .i64 2]) (results_ct rfl _ _ w.heap.size #[.int .u8 0, .slice none 0 0] (.int .i64 2) _ rfl rfl rfl HR2.out.1) rfl ?_
  exact IsFound.bad HH.out (by unfold Pp.rdE; rw [if_pos HEB.out.1]) (by decide) rfl HR2.out.2
end
end Go.Proofs.YtiafeniflkikeaaGreat
namespace Go.Proofs.YtiafeniflkikeaaGreat
open Go.RowKit
set_option linter.unusedVariables false
section
variable {w : World} {fp : Fp} {s : Nat} {t : Sf.St} {b : Nat} {who : Who} {bf bs bn : Nat} {vr : Sl} {ff : Int → Option RawX} {rn : List RawN}
set_option maxHeartbeats 1000000 in
set_option maxRecDepth 100000 in
theorem parm_any (h : PDisk w fp t b) (n : Int) (hn : I64 n) : Calls Tryz.prog 17 #[.pointer (some ⟨b, 0, none⟩), .int .i64 n] w (IsDeed PDisk fp b (Sf.arm t n) w) := by
 obtain ⟨who, bf, bs, bn, vr, ff, rn, h⟩ := h
 have CR := Lib.hid (prefusal_disk h)
 have HH := Lib.hid h
 have d7 : w.cell? ⟨b, 7, none⟩ = some (.int .i64 (t.fuse : Nat)) := h.cell rfl
 have z7 : w.frozen? ⟨b, 7, none⟩ = false := frozen_of_row w b 7 _ _ h.head
 have T1 : Turned (fun k => k = b) w (w.setCell ⟨b, 7, none⟩ (.int .i64 n)) := Turned.setCell (F := fun k => k = b) (Turned.refl (fun k => k = b) w) (p := ⟨b, 7, none⟩) (fun _ => rfl) _
 have HT := Lib.hid T1
 clear h T1
 cases hd : t.dead with
 | true =>
  have HE : Hid (Sf.arm t n = (13, t)) := if_pos hd
  rw [hd] at CR
  clear hd
  go_enter Tryz.func17, Tryz.ntmps17
  go_wp2_with fail
  refine CR.out.mono ?_
  rintro e1 w1 ⟨rfl, rfl⟩
  clear CR
  go_wp2
  go_ret
  rw [HE.out]
  exact ⟨rfl, fp, ⟨_, _, _, _, _, _, _, HH.out⟩, Fp.Next.refl _ _, Turned.refl _ _⟩
 | false =>
  rw [hd] at CR
  by_cases h0 : n < 0
  ·have HE : Hid (Sf.arm t n = (2, t)) := by unfold Hid Sf.arm; rw [hd, if_neg (by simp), if_pos h0]
   clear hd
   go_enter Tryz.func17, Tryz.ntmps17
   go_wp2_with fail
   refine CR.out.mono ?_
   rintro e1 w1 ⟨rfl, rfl⟩
   clear CR
   go_wp2
   go_ret
   rw [HE.out]
   exact ⟨rfl, fp, ⟨_, _, _, _, _, _, _, HH.out⟩, Fp.Next.refl _ _, Turned.refl _ _⟩
  ·have HE : Hid (Sf.arm t n = (0, { t with fuse := n.toNat })) := by unfold Hid Sf.arm; rw [hd, if_neg (by simp), if_neg h0]
   have hn2 := hn
   unfold I64 at hn2
   have nn : ((n.toNat : Nat) : Int) = n := by omega
   have h1 := head_setP HH.out.head 7 (.int .i64 n) (C' := headP { t with fuse := n.toNat } bf bs bn vr) (by unfold headP; rw [← nn]; rfl)
   have H1 := Lib.hid h1
   have HG : Hid (GoodS 0 { t with fuse := n.toNat }) := ⟨HH.out.good.room, HH.out.good.files, HH.out.good.rows, HH.out.good.acts, by show n.toNat < _; omega, HH.out.good.sure, HH.out.good.seen, HH.out.good.row, HH.out.good.lens, HH.out.good.nums, HH.out.good.frow⟩
   clear hd h1 nn
   go_enter Tryz.func17, Tryz.ntmps17
   go_wp2_with fail
   refine CR.out.mono ?_
   rintro e1 w1 ⟨rfl, rfl⟩
   clear CR
   go_wp2
   go_ret
   rw [HE.out]
   refine ⟨rfl, fp, ⟨who, bf, bs, bn, vr, ff, rn, H1.out, (HH.out.body.turned HT.out fun k hk => .inr (by rw [hk]; exact HH.out.mine)).congr rfl rfl rfl rfl (Nat.le_refl _), HG.out, HH.out.mine, HH.out.m, HH.out.r, fun k hk => Nat.lt_of_lt_of_le (HH.out.lt k hk) HT.out.size⟩, Fp.Next.refl _ _, turned_mine HH.out HT.out⟩
set_option maxHeartbeats 1000000 in
set_option maxRecDepth 100000 in
theorem pdead_any (h : PDisk w fp t b) : Calls Tryz.prog 18 #[.pointer (some ⟨b, 0, none⟩)] w (IsBool t.dead w) := by
 obtain ⟨who, bf, bs, bn, vr, ff, rn, h⟩ := h
 have CM := Lib.hid (pmade_cell (w := w) (b := b) (some bf) (h.cell rfl))
 have d8 : w.cell? ⟨b, 8, none⟩ = some (.bool t.dead) := h.cell rfl
 clear h
 go_enter Tryz.func18, Tryz.ntmps18
 go_wp2_with fail
 refine CM.out.mono ?_
 rintro e1 w1 ⟨rfl, rfl⟩
 clear CM
 go_wp2
 go_ret
 exact ⟨rfl, Below.refl _ _⟩
end
end Go.Proofs.YtiafeniflkikeaaGreat
namespace Go.Proofs.YtiafeniflkikeaaGreat
open Go.RowKit
set_option linter.unusedVariables false
section
variable {w w' : World} {fp fd : Fp} {s : Pp.S} {F : List Nat} {b bf U D P H last frm : Nat} {fP : Int → Option RawU} {fH : Int → Option RawH} {t : Sf.St}
theorem find_mem {l : List Pa.Page} (hr : Pa.Rising l) {n : Int} {x : Pa.Page} (hx : x ∈ l) (hn : (x.n : Int) = n) : Pa.find l n = some x := by
 unfold Pa.find
 cases hq : Pa.idx l n with
 | none =>
  unfold Pa.idx at hq
  rw [List.findIdx?_eq_none_iff] at hq
  simpa [hn] using hq x hx
 | some i =>
  obtain ⟨y, hy, hyn⟩ := Pa.idx_lt hq
  rw [Option.bind_some, hy, Pp.rising_inj hr (List.mem_of_getElem? hy) hx (by omega)]
theorem IsFound.ok {r : Nat × List Nat × Nat} {kd : Nat} {a1 : Option Addr} {a2 a3 : Nat} {kind : Nat} {body : List Nat} {x : Int} (h : PyHas w fp s F b bf U D P H last frm fP fH) (hb : Below w.heap.size w w') (hu : InB w fp.R ⟨kd, ⟨a1, a2, a3⟩⟩ kind body) (hr : r = (kind, body, 0)) (hx : x = 0) :
  IsFound fp s F b bf r w (.returned (.tuple #[.agg #[.int .u8 (kd : Nat), .slice a1 a2 a3], .int .i64 x])) w' := by
 subst hr hx
 exact ⟨⟨kd, ⟨a1, a2, a3⟩⟩, fp, rfl, fun _ => hu.turned (Turned.of_below hb) (fun k hk hj => by have := (h.r k hk).2; omega), fun h => absurd rfl h, ⟨_, _, _, _, _, _, _, _, (h.below hb).more (Nat.le_succ _)⟩, Fp.Next.refl _ _, (Turned.of_below hb).mono (fun q hq h => absurd hq (by omega))⟩
theorem IsFound.stored {r : Nat × List Nat × Nat} {u : RawU} {fp' : Fp} {Y w4 X2 : World} (hl : fp.Lt w.heap.size) (hb : Below w.heap.size w Y) (hs : w.heap.size < Y.heap.size) (h1 : r.2.2 = 0 → InB w4 fp'.R u r.1 r.2.1) (h2 : r.2.2 ≠ 0 → r.1 = 0 ∧ r.2.1 = [])
  (hP : PPager w4 fp' { s with turns := s.turns + 1 } F b bf) (hN : fp.Next fp' Y.heap.size) (hT : Turned fp.M Y w4) (hX : Turned (fun q => q = w.heap.size) w4 X2) : IsFound fp s F b bf r w (.returned (.tuple #[uV u, .int .i64 (r.2.2 : Nat)])) X2 := by
 have hM : ¬ fp'.M w.heap.size := fun h => by
  rcases hN.m _ h with h | h
  ·have := hl _ (.inl h); omega
  ·omega
 have hR : ¬ fp'.R w.heap.size := fun h => by
  rcases hN.r _ h with h | h
  ·have := hl _ (.inr h); omega
  ·omega
 refine ⟨u, fp', rfl, fun h => (h1 h).turned hX (fun k hk he => hR (he ▸ hk)), h2, ppager_turned hP hX (fun q hq => by subst hq; exact ⟨hM, hR⟩), (Fp.Next.refl fp w.heap.size).trans hN (by omega), ?_⟩
 have h3 : Turned fp.M w w4 := ((Turned.of_below hb).mono (G := fp.M) (fun q hq h => absurd hq (by omega))).trans hT (fun _ _ h => h)
 exact h3.trans hX (fun q hq h => absurd hq (by omega))
theorem find_none {l : List Pa.Page} {n : Int} (h : ∀ x ∈ l, (x.n : Int) ≠ n) : Pa.find l n = none := by
 unfold Pa.find
 rw [Pa.idx_none h]
 rfl
set_option maxHeartbeats 4000000 in
set_option maxRecDepth 100000 in
theorem pyfind_any (h : PyHas w fp s F b bf U D P H last frm fP fH) (hD : PDisk w fd t bf) (hd : t.dead = false) (k : Nat) (hg : Sf.get t s.name = (k, 0)) (hF : Sf.now (Sf.fileAt t k) = F) (htn : s.turns < 2305843009213693952) (n : Int) (hn : I64 n) :
  Calls Tryz.prog 75 #[.pointer (some ⟨b, 0, none⟩), .int .i64 n] w (IsFound fp s F b bf (Pp.readE s F n) w) := by
 obtain ⟨W, hW⟩ : ∃ W, w.alloc (.cells #[.int .u8 0, .slice none 0 0] 108) = W := ⟨_, rfl⟩
 have hb : Below w.heap.size w W := by rw [← hW]; exact (Below.refl _ _).alloc (Nat.le_refl _) _
 have HW0 : Hid (Rw W w.heap.size 108 #[.int .u8 0, .slice none 0 0]) := by unfold Hid; rw [← hW]; exact Rw.new w _ _
 have HBW := Lib.hid hb
 have HHW := Lib.hid (h.below hb)
 have HDW := Lib.hid (pdisk_law.below hD hb)
 have h11 : W.cell? ⟨b, 11, none⟩ = some (.map (some P)) := HHW.out.cell rfl
 have HH := Lib.hid h
 have HTD := Lib.hid hd
 have HG := Lib.hid (And.intro hg hF)
 have HN := Lib.hid (And.intro hn htn)
 have hz2 := ct_built0
 have hct : (Tryz.prog.info? 108).map (·.size) = some (#[.int .u8 0, .slice none 0 0] : Array Value).size := ct_size
 have hone : (#[.int .u8 0, .slice none 0 0] : Array Value).all (·.oneCell') = true := by simp [Value.oneCell']
 have hlk := HHW.out.pend.look_ok (K := peM) (i64_ok hn)
 cases hf : fP n with
 | some c =>
  obtain ⟨x, hx1, hx2, hx3, hx4⟩ := HHW.out.hpend n c hf
  have HRE : Hid (Pp.readE s F n = (x.kind, x.body, 0)) := by unfold Hid Pp.readE; rw [find_mem h.sound.rise hx1 hx2]; simp only [hx3, if_true]
  obtain ⟨kd, ⟨a1, a2, a3⟩⟩ := c
  rw [hf] at hlk
  change (Instr.lookup 74 (.map (some P)) (.int .i64 n) true).run Tryz.prog W = .ok (.tuple #[.agg #[.int .u8 (kd : Nat), .slice a1 a2 a3], .bool true]) W at hlk
  obtain ⟨x', hx1', hx2', hx3', hx4'⟩ := h.hpend n _ hf
  have ex : x' = x := Pp.rising_inj h.sound.rise hx1' hx1 (by omega)
  subst ex
  have HI0 := Lib.hid hx4'
  have HX0 : Hid (Rw (W.alloc (.cells #[.int .u8 (kd : Nat), .slice a1 a2 a3] 108)) w.heap.size 108 #[.int .u8 0, .slice none 0 0]) := HW0.out.old _
  have HXB : Hid (Below w.heap.size w (W.alloc (.cells #[.int .u8 (kd : Nat), .slice a1 a2 a3] 108))) := HBW.out.alloc HBW.out.size _
  have HXW : Hid (Turned (fun q => q = w.heap.size) W (W.alloc (.cells #[.int .u8 (kd : Nat), .slice a1 a2 a3] 108))) := (Turned.refl _ _).alloc _
  have hct2 : (Tryz.prog.info? 108).map (·.size) = some (#[.int .u8 (kd : Nat), .slice a1 a2 a3] : Array Value).size := ct_size
  have hone2 : (#[.int .u8 (kd : Nat), .slice a1 a2 a3] : Array Value).all (·.oneCell') = true := by simp [Value.oneCell']
  have hsz2 : (#[.int .u8 0, .slice none 0 0] : Array Value).size = (#[.int .u8 (kd : Nat), .slice a1 a2 a3] : Array Value).size := rfl
  clear h hD hd hg hF htn hn hb hf hx1 hx2 hx3 hx4 hct hone hz2 hx1' hx2' hx3' hx4'
  go_enter Tryz.func75, Tryz.ntmps75
  go_wp2_with ((with_reducible refine gate_store 108 ?_); refine wpList_store_row rfl 108 _ _ rfl w.heap.size #[.int .u8 (kd : Nat), .slice a1 a2 a3] rfl rfl 108 #[.int .u8 0, .slice none 0 0] HX0.out hct2 hsz2 hone2 ?_)
  have HR2 := Lib.hid (And.intro (Rw.row HX0.out #[.int .u8 (kd : Nat), .slice a1 a2 a3]) (below_setRow HXB.out (Nat.le_refl w.heap.size) #[.int .u8 (kd : Nat), .slice a1 a2 a3]))
  generalize (W.alloc (.cells #[.int .u8 (kd : Nat), .slice a1 a2 a3] 108)).setRow w.heap.size #[.int .u8 (kd : Nat), .slice a1 a2 a3] = X2 at *
  try go_wp2
  refine bodyPost_ret (v := .tuple #[.agg #[.int .u8 (kd : Nat), .slice a1 a2 a3], .int .i64 0]) (results_ct rfl _ _ w.heap.size #[.int .u8 (kd : Nat), .slice a1 a2 a3] (.int .i64 0) _ rfl rfl rfl HR2.out.1) rfl ?_
  exact IsFound.ok HH.out HR2.out.2 HI0.out HRE.out rfl
 | none =>
  rw [hf] at hlk
  change (Instr.lookup 74 (.map (some P)) (.int .i64 n) true).run Tryz.prog W = .ok (.tuple #[.agg #[.int .u8 0, .slice none 0 0], .bool false]) W at hlk
  obtain ⟨X, hX⟩ : ∃ X, W.alloc (.cells #[.int .u8 0, .slice none 0 0] 108) = X := ⟨_, rfl⟩
  have HXE := Lib.hid hX
  have hXB : Below w.heap.size w X := by rw [← hX]; exact HBW.out.alloc HBW.out.size _
  have HXB := Lib.hid hXB
  have HX0 : Hid (Rw X w.heap.size 108 #[.int .u8 0, .slice none 0 0]) := by unfold Hid; rw [← hX]; exact HW0.out.old _
  have HHX := Lib.hid (h.below hXB)
  have HDX := Lib.hid (pdisk_law.below hD hXB)
  have CH := Lib.hid (pyhas_any HHX.out.used n hn)
  have hX9 : (W.alloc (.cells #[.int .u8 0, .slice none 0 0] 108)).cell? ⟨b, 9, none⟩ = some (.map (some U)) := by rw [HXE.out]; exact HHX.out.cell rfl
  have h9 : W.cell? ⟨b, 9, none⟩ = some (.map (some U)) := HHW.out.cell rfl
  have HPN : Hid (∀ x ∈ s.l, (x.n : Int) = n → x.state ≠ 2) := fun x hx he h2 => by
   have := h.there x hx h2
   rw [he, hf] at this
   cases this
  have hU := Pp.usedF_some (l := s.l) (k := n)
  obtain ⟨u, hu⟩ : ∃ u, (Pp.usedF s.l n).isSome = u := ⟨_, rfl⟩
  rw [hu] at CH hU
  have HU := Lib.hid hU
  clear h hD hd hg hF htn hn hb hf hX hXB hu hU
  cases u with
  | false =>
   have HRE : Hid (Pp.readE s F n = (0, [], 7)) := by
    unfold Hid Pp.readE
    rw [find_none (fun x hx he => by have := HU.out.2 ⟨x, hx, he, HPN.out x hx he⟩; cases this)]
   go_enter Tryz.func75, Tryz.ntmps75
   go_wp2_with fail
   rw [HXE.out]
   refine CH.out.mono ?_
   rintro e w1 ⟨rfl, b1⟩
   have HW1 : Hid (Rw w1 w.heap.size 108 #[.int .u8 0, .slice none 0 0]) := HX0.out.below b1 HX0.out.lt
   have HB1 := Lib.hid (HXB.out.trans (b1.mono HXB.out.size))
   clear CH b1 hX9 h9 h11 hlk hW
   go_wp2_with (first
    | ((with_reducible refine gate_build 108 ?_); refine wpList_build_atT rfl _ _ rfl _ hz2 ?_)
    | ((with_reducible refine gate_store 108 ?_); refine wpList_store_row rfl 108 _ _ rfl w.heap.size #[.int .u8 0, .slice none 0 0] rfl rfl 108 #[.int .u8 0, .slice none 0 0] HW1.out hct rfl hone ?_))
   have HR2 := Lib.hid (And.intro (Rw.row HW1.out #[.int .u8 0, .slice none 0 0]) (below_setRow HB1.out (Nat.le_refl w.heap.size) #[.int .u8 0, .slice none 0 0]))
   generalize w1.setRow w.heap.size #[.int .u8 0, .slice none 0 0] = X2 at *
   try go_wp2
   refine bodyPost_ret (v := .tuple #[.agg #[.int .u8 0, .slice none 0 0], .int .i64 7]) (results_ct rfl _ _ w.heap.size #[.int .u8 0, .slice none 0 0] (.int .i64 7) _ rfl rfl rfl HR2.out.1) rfl ?_
   exact IsFound.bad HH.out HRE.out (by decide) rfl HR2.out.2
  | true =>
   obtain ⟨x, hx1, hx2, hx3⟩ := HU.out.1 rfl
   obtain ⟨m, rfl⟩ : ∃ m : Nat, n = (m : Int) := ⟨x.n, hx2.symm⟩
   have HRE : Hid (Pp.readE s F (m : Int) = Pp.rdE F m) := by
    unfold Hid Pp.readE
    rw [find_mem HH.out.sound.rise hx1 hx2]
    simp only [if_neg hx3]
    rw [show x.n = m by omega]
   have HXX : Hid (∃ x ∈ s.l, x.n = m ∧ x.state ≠ 2) := ⟨x, hx1, by omega, hx3⟩
   clear hx1 hx2 hx3
   go_enter Tryz.func75, Tryz.ntmps75
   go_wp2_with fail
   rw [HXE.out]
   refine CH.out.mono ?_
   rintro e w1 ⟨rfl, b1⟩
   have HW1 : Hid (Rw w1 w.heap.size 108 #[.int .u8 0, .slice none 0 0]) := HX0.out.below b1 HX0.out.lt
   have HB1 := Lib.hid (HXB.out.trans (b1.mono HXB.out.size))
   have HH1 := Lib.hid (HHX.out.below b1)
   have HD1 := Lib.hid (pdisk_law.below HDX.out b1)
   have h0 : w1.cell? ⟨b, 0, none⟩ = some (.pointer (some ⟨bf, 0, none⟩)) := HH1.out.cell rfl
   have CD := Lib.hid (pdead_any HD1.out)
   rw [HTD.out] at CD
   clear CH b1 hX9 h9 h11 hlk hW
   go_wp2_with fail
   refine CD.out.mono ?_
   rintro e w2 ⟨rfl, b2⟩
   have HW2 : Hid (Rw w2 w.heap.size 108 #[.int .u8 0, .slice none 0 0]) := HW1.out.below b2 HW1.out.lt
   have HB2 := Lib.hid (HB1.out.trans (b2.mono HB1.out.size))
   have HH2 := Lib.hid (HH1.out.below b2)
   have HD2 := Lib.hid (pdisk_law.below HD1.out b2)
   have CF := Lib.hid (pycfind_any HH2.out.head HH2.out.hand HH2.out.sb.2.2.2 HH2.out.small_hand HH2.out.few HH2.out.sound.cache (fun k c hc => (HH2.out.hhand k c hc).2.1) (by have := HH2.out.last; have := HN.out; omega) (m : Int) HN.out.1)
   clear CD b2 h0
   go_wp2_with fail
   refine CF.out.mono ?_
   rintro e w3 (⟨hfn, rfl, b3⟩ | ⟨c, hfc, rfl, hkp⟩)
   ·obtain ⟨Y, hY⟩ : ∃ Y, w3.alloc (.cells #[.int .u8 0, .slice none 0 0] 108) = Y := ⟨_, rfl⟩
    have hYB : Below w2.heap.size w2 Y := by rw [← hY]; exact b3.alloc b3.size _
    have HYB := Lib.hid (HB2.out.trans (hYB.mono HB2.out.size))
    have HWY : Hid (Rw Y w.heap.size 108 #[.int .u8 0, .slice none 0 0]) := HW2.out.below hYB HW2.out.lt
    have CT := Lib.hid (pyfetch_any (HH2.out.below hYB) (pdisk_law.below HD2.out hYB) HTD.out k HG.out.1 HG.out.2 HN.out.2 m HXX.out)
    have HYE := Lib.hid hY
    clear hYB CF hfn b3 hY hz2
    go_wp2_with fail
    rw [HYE.out]
    refine CT.out.mono ?_
    rintro e w4 ⟨⟨kd, ⟨a1, a2, a3⟩⟩, fp', rfl, hI, hI2, hP, hNx, hT4⟩
    have HR4 := Lib.hid (And.intro hI (And.intro hI2 (And.intro hP (And.intro hNx hT4))))
    have HW4 : Hid (Rw w4 w.heap.size 108 #[.int .u8 0, .slice none 0 0]) := (hT4.block _ HWY.out.lt (fun hm => by have := HH.out.lt _ (.inl hm); omega)).trans HWY.out
    have hct2 : (Tryz.prog.info? 108).map (·.size) = some (#[.int .u8 (kd : Nat), .slice a1 a2 a3] : Array Value).size := ct_size
    have hone2 : (#[.int .u8 (kd : Nat), .slice a1 a2 a3] : Array Value).all (·.oneCell') = true := by simp [Value.oneCell']
    have hsz2 : (#[.int .u8 0, .slice none 0 0] : Array Value).size = (#[.int .u8 (kd : Nat), .slice a1 a2 a3] : Array Value).size := rfl
    obtain ⟨er, her⟩ : ∃ er, (Pp.rdE F m).2.2 = er := ⟨_, rfl⟩
    have HER := Lib.hid her
    rw [her]
    clear hI hI2 hP hNx hT4 CT hct hone her
    simp only [uV, slV]
    go_wp2_with ((with_reducible refine gate_store 108 ?_); refine wpList_store_row rfl 108 _ _ rfl w.heap.size #[.int .u8 (kd : Nat), .slice a1 a2 a3] rfl rfl 108 #[.int .u8 0, .slice none 0 0] HW4.out hct2 hsz2 hone2 ?_)
    have HR2 := Lib.hid (Rw.row HW4.out #[.int .u8 (kd : Nat), .slice a1 a2 a3])
    have HX2 : Hid (Turned (fun q => q = w.heap.size) w4 (w4.setRow w.heap.size #[.int .u8 (kd : Nat), .slice a1 a2 a3])) := (Turned.refl (fun q => q = w.heap.size) w4).setRow (fun _ => rfl) _
    generalize w4.setRow w.heap.size #[.int .u8 (kd : Nat), .slice a1 a2 a3] = X2 at *
    try go_wp2
    refine bodyPost_ret (v := .tuple #[.agg #[.int .u8 (kd : Nat), .slice a1 a2 a3], .int .i64 (er : Nat)]) (results_ct rfl _ _ w.heap.size #[.int .u8 (kd : Nat), .slice a1 a2 a3] (.int .i64 (er : Nat)) _ rfl rfl rfl HR2.out) rfl ?_
    rw [HRE.out, ← HER.out]
    exact IsFound.stored HH.out.lt HYB.out HWY.out.lt HR4.out.1 HR4.out.2.1 HR4.out.2.2.1 HR4.out.2.2.2.1 HR4.out.2.2.2.2 HX2.out
   ·obtain ⟨_, _, kd0, bd0, hin, hrd⟩ := HH2.out.hhand _ c hfc
    obtain ⟨⟨kd, ⟨a1, a2, a3⟩⟩, tn⟩ := c
    obtain ⟨fN, hN1⟩ := PyHas.kept HH2.out hkp fp.R (fun _ h => h) (fun q hq => ⟨(HH2.out.r q hq).1, by obtain ⟨_, _, _, _, _, hT⟩ := hkp; exact Nat.lt_of_lt_of_le (HH2.out.r q hq).2 hT.size⟩)
     (by obtain ⟨x, h1, h2, h3⟩ := HXX.out; exact ⟨x, h1, by rw [h2], h3⟩) (by obtain ⟨_, _, _, _, _, hT⟩ := hkp; exact hin.turned hT (fun q hq he => by
      have := (HH2.out.r q hq).1
      rcases he with rfl | rfl
      ·exact this HH2.out.ms.1
      ·exact this HH2.out.ms.2.2.2.2)) hrd
    obtain ⟨_, _, _, _, _, hT⟩ := hkp
    have hin3 : InB w3 fp.R ⟨kd, ⟨a1, a2, a3⟩⟩ kd0 bd0 := hin.turned hT (fun q hq he => by
      have := (HH2.out.r q hq).1
      rcases he with rfl | rfl
      ·exact this HH2.out.ms.1
      ·exact this HH2.out.ms.2.2.2.2)
    have HT3 : Hid (Turned fp.M w2 w3) := hT.mono (fun q _ h => by rcases h with rfl | rfl; exact HH2.out.ms.1; exact HH2.out.ms.2.2.2.2)
    have hbl := HH.out.lts
    have HW3 : Hid (Rw w3 w.heap.size 108 #[.int .u8 0, .slice none 0 0]) := (hT.block _ HW2.out.lt (fun h => by omega)).trans HW2.out
    obtain ⟨Y, hY⟩ : ∃ Y, w3.alloc (.cells #[.int .u8 (kd : Nat), .slice a1 a2 a3] 108) = Y := ⟨_, rfl⟩
    have HW4 : Hid (Rw (w3.alloc (.cells #[.int .u8 (kd : Nat), .slice a1 a2 a3] 108)) w.heap.size 108 #[.int .u8 0, .slice none 0 0]) := HW3.out.old _
    have HWY : Hid (Rw Y w.heap.size 108 #[.int .u8 0, .slice none 0 0]) := by unfold Hid; rw [← hY]; exact HW4.out
    have hTY : Turned (fun _ => False) w3 Y := by rw [← hY]; exact (Turned.refl _ _).alloc _
    have HIN := Lib.hid (hin3.turned hTY (fun _ _ h => h))
    have HPY := Lib.hid (hN1.turned hTY (fun _ h => h.elim))
    have HTY : Hid (Turned fp.M w2 Y) := HT3.out.trans hTY (fun _ _ h => h.elim)
    have HRD := Lib.hid hrd
    have HYE := Lib.hid hY
    have hct2 : (Tryz.prog.info? 108).map (·.size) = some (#[.int .u8 (kd : Nat), .slice a1 a2 a3] : Array Value).size := ct_size
    have hone2 : (#[.int .u8 (kd : Nat), .slice a1 a2 a3] : Array Value).all (·.oneCell') = true := by simp [Value.oneCell']
    have hsz2 : (#[.int .u8 0, .slice none 0 0] : Array Value).size = (#[.int .u8 (kd : Nat), .slice a1 a2 a3] : Array Value).size := rfl
    clear hfc hin hrd hN1 hT hin3 hbl hTY hY CF hct hone hz2
    simp only [uV, slV]
    go_wp2_with ((with_reducible refine gate_store 108 ?_); refine wpList_store_row rfl 108 _ _ rfl w.heap.size #[.int .u8 (kd : Nat), .slice a1 a2 a3] rfl rfl 108 #[.int .u8 0, .slice none 0 0] HW4.out hct2 hsz2 hone2 ?_)
    rw [HYE.out]
    have HR2 := Lib.hid (Rw.row HWY.out #[.int .u8 (kd : Nat), .slice a1 a2 a3])
    have HX2 : Hid (Turned (fun q => q = w.heap.size) Y (Y.setRow w.heap.size #[.int .u8 (kd : Nat), .slice a1 a2 a3])) := (Turned.refl (fun q => q = w.heap.size) Y).setRow (fun _ => rfl) _
    generalize Y.setRow w.heap.size #[.int .u8 (kd : Nat), .slice a1 a2 a3] = X2 at *
    try go_wp2
    refine bodyPost_ret (v := .tuple #[.agg #[.int .u8 (kd : Nat), .slice a1 a2 a3], .int .i64 0]) (results_ct rfl _ _ w.heap.size #[.int .u8 (kd : Nat), .slice a1 a2 a3] (.int .i64 0) _ rfl rfl rfl HR2.out) rfl ?_
    have hrm : Pp.rdE F m = (kd0, bd0, 0) := by have := HRD.out; rwa [Int.toNat_natCast] at this
    rw [HRE.out, hrm]
    exact IsFound.stored (r := (kd0, bd0, 0)) (u := ⟨kd, ⟨a1, a2, a3⟩⟩) (fp' := ⟨fp.M, fp.R⟩) HH.out.lt HB2.out HW2.out.lt (fun _ => HIN.out) (fun h => absurd rfl h) ⟨_, _, _, _, _, _, _, _, HPY.out⟩ ⟨fun _ h => .inl h, fun _ h => .inl h⟩ HTY.out HX2.out
end
end Go.Proofs.YtiafeniflkikeaaGreat
namespace Go.Proofs.YtiafeniflkikeaaGreat
open Go.RowKit
set_option linter.unusedVariables false
section
variable {w w' : World} {f fp fd : Fp} {s : Pp.S} {F : List Nat} {b bf U D P H last frm : Nat} {fP : Int → Option RawU} {fH : Int → Option RawH} {t : Sf.St}
theorem Pp.readE_bad (s : Pp.S) (F : List Nat) (n : Int) (h : (Pp.readE s F n).2.2 ≠ 0) : (Pp.readE s F n).1 = 0 ∧ (Pp.readE s F n).2.1 = [] := by
 unfold Pp.readE at h ⊢
 split
 ·exact ⟨rfl, rfl⟩
 ·rename_i x hx
  split
  ·rename_i h2; simp [hx, h2] at h
  ·rename_i h2
   simp only [hx, if_neg h2] at h
   unfold Pp.rdE at h ⊢
   split
   ·exact ⟨rfl, rfl⟩
   ·split
    ·exact ⟨rfl, rfl⟩
    ·rename_i h3 h4
     rw [if_neg h3, if_neg h4] at h
     exact Pg.getE_bad (n := x.n) (b := Pp.pageOf F x.n) (k := (Pg.getE x.n (Pp.pageOf F x.n)).1) (c := (Pg.getE x.n (Pp.pageOf F x.n)).2.1) rfl h
set_option maxHeartbeats 4000000 in
set_option maxRecDepth 100000 in
theorem ppread_any (n : Int) (k : Nat) (h : PPager w f s F b bf) (hD : PDisk w fd t bf) (hn : I64 n) (hd : t.dead = false) (hg : Sf.get t s.name = (k, 0)) (hF : Sf.now (Sf.fileAt t k) = F) (htn : s.turns ≤ 1099511627776) :
 Calls Tryz.prog 28 #[.pointer (some ⟨b, 0, none⟩), .int .i64 n] w (fun e w' => (∃ A c, e = .returned (.tuple #[.int .u8 ((Pp.readE s F n).1 : Nat), .slice A (Pp.readE s F n).2.1.length c, .int .i64 ((Pp.readE s F n).2.2 : Nat)]) ∧ OwnL yK w' w.heap.size (.slice A (Pp.readE s F n).2.1.length c) (Pp.readE s F n).2.1 ∧ ∃ f', PPager w' f' { s with turns := s.turns + 1 } F b bf ∧ f.Next f' w.heap.size ∧ Turned f.M w w' ∧ f'.Off (fun q => (Value.slice A (Pp.readE s F n).2.1.length c).ownBlock = some q))) := by
 obtain ⟨U, D, P, H, last, frm, fP, fH, h⟩ := h
 have h0 : w.cell? ⟨b, 0, none⟩ = some (.pointer (some ⟨bf, 0, none⟩)) := h.cell rfl
 have CM := Lib.hid (pymade_any h0)
 have CF := Lib.hid (pyfind_any h hD hd k hg hF (by omega) n hn)
 have HBAD := Lib.hid (Pp.readE_bad s F n)
 obtain ⟨kd, bd, er, hr⟩ : ∃ kd bd er, Pp.readE s F n = (kd, bd, er) := ⟨_, _, _, rfl⟩
 rw [hr] at CF HBAD ⊢
 have HL := Lib.hid h.lt
 clear h hD hd hg hF htn hn h0 hr
 go_enter Tryz.func28, Tryz.ntmps28
 go_wp2_with fail
 refine CM.out.mono ?_
 rintro e w1 ⟨rfl, rfl⟩
 clear CM
 go_wp2_with fail
 refine CF.out.mono ?_
 rintro e w2 ⟨⟨ku, ⟨a1, a2, a3⟩⟩, f2, rfl, hI, hI2, hP, hN, hT⟩
 have HP := Lib.hid hP
 have HN := Lib.hid hN
 have HT := Lib.hid hT
 have HI := Lib.hid hI
 simp only [uV, slV]
 clear hI hI2 hP hN hT CF
 by_cases he : er = 0
 ·subst he
  have HIN := Lib.hid (HI.out rfl)
  have hku := HIN.out.ek
  simp only at hku
  subst hku
  obtain ⟨Y0, hY0⟩ : ∃ Y, w2.alloc (.cells #[.int .u8 (ku : Nat), .slice a1 a2 a3] 108) = Y := ⟨_, rfl⟩
  obtain ⟨Y, hY⟩ : ∃ Y, Y0.drew = Y := ⟨_, rfl⟩
  have HYR : Hid (Rw Y w2.heap.size 108 #[.int .u8 (ku : Nat), .slice a1 a2 a3]) := by unfold Hid; rw [← hY, ← hY0]; exact Rw.new w2 _ _
  have HYB : Hid (Below w2.heap.size w2 Y) := by unfold Hid; rw [← hY, ← hY0]; exact below_drewN ((Below.refl _ _).alloc (Nat.le_refl _) _) 1
  have hlv : Lv yK Y w2.heap.size (.slice a1 a2 a3) bd := HIN.out.lv.below_ HYB.out (Nat.le_refl _)
  have CC := Lib.hid (pbclone_any _ _ w2.heap.size Y hlv HYB.out.size (by have h : bd.length ≤ 496 := HIN.out.len; omega))
  have HC : Hid (∀ w', Below Y.heap.size Y w' → w'.cell? ⟨w2.heap.size, 0, none⟩ = some (.int .u8 (ku : Nat)) ∧ w'.cell? ⟨w2.heap.size, 1, none⟩ = some (.slice a1 a2 a3)) := fun w' hw => ⟨(HYR.out.below hw HYR.out.lt).cell 0, (HYR.out.below hw HYR.out.lt).cell 1⟩
  clear hlv
  go_wp2_with fail
  try rw [hY0]
  refine wp_region_m (fun w' => Below Y.heap.size Y w') 8 (by kernel_rfl) ?_
  rw [hY]
  have hH : Below Y.heap.size Y Y := Below.refl _ _
  refine zM (i := 0) (v := ?_) rfl (by kernel_rfl) (fun _ _ _ h => h) hH (Or.inl ⟨by rfl, (by intro w' hSw; obtain ⟨s0, s1⟩ := HC.out w' hSw; go_simp; first | done | with_reducible rfl)⟩) ?_
  try simp only [Act.put, zA, zC, zD, zE, zF]
  refine zM (i := 1) (v := ?_) rfl (by kernel_rfl) (fun _ _ _ h => h) hH (Or.inl ⟨by rfl, (by intro w' hSw; obtain ⟨s0, s1⟩ := HC.out w' hSw; go_simp; first | done | with_reducible rfl)⟩) ?_
  try simp only [Act.put, zA, zB, zC, zD, zE, zF]
  refine zM (i := 2) (v := ?_) rfl (by kernel_rfl) (fun _ _ _ h => h) hH (Or.inl ⟨by rfl, (by intro w' hSw; obtain ⟨s0, s1⟩ := HC.out w' hSw; go_simp; first | done | with_reducible rfl)⟩) ?_
  try simp only [Act.put, zA, zB, zC, zD, zE, zF]
  refine zM (i := 3) (v := ?_) rfl (by kernel_rfl) (fun _ _ _ h => h) hH (Or.inl ⟨by rfl, (by intro w' hSw; obtain ⟨s0, s1⟩ := HC.out w' hSw; go_simp; first | done | with_reducible rfl)⟩) ?_
  try simp only [Act.put, zA, zB, zC, zD, zE, zF]
  refine wpAnyM_next (i := 4) (by kernel_rfl) rfl (fun K hK => ?_)
  go_simp
  refine CC.out.mono ?_
  rintro e w3 ⟨A, c, rfl, ho, b3⟩
  refine hK.out _ _ (.inr b3) ?_
  clear hK K CC
  try simp only [Act.put, zA, zB, zC, zD, zE, zF]
  refine zM (i := 5) (v := ?_) rfl (by kernel_rfl) (fun _ _ _ h => h) b3 (Or.inl ⟨by rfl, (by intro w' hSw; skip; go_simp; first | done | with_reducible rfl)⟩) ?_
  try simp only [Act.put, zA, zB, zC, zD, zE, zF]
  refine zM (i := 6) (v := ?_) rfl (by kernel_rfl) (fun _ _ _ h => h) b3 (Or.inl ⟨by rfl, (by intro w' hSw; skip; go_simp; first | done | with_reducible rfl)⟩) ?_
  try simp only [Act.put, zA, zB, zC, zD, zE, zF]
  refine zM (i := 7) (v := ?_) rfl (by kernel_rfl) (fun _ _ _ h => h) b3 (Or.inl ⟨by rfl, (by intro w' hSw; skip; go_simp; first | done | with_reducible rfl)⟩) ?_
  try simp only [Act.put, zA, zB, zC, zD, zE, zF]
  refine wpAnyM_done (by kernel_rfl) ?_ _
  have HO := Lib.hid ho
  have HB3 := Lib.hid b3
  clear hH ho b3 hY hY0
  have hs2 := HT.out.size
  have hsY := HYB.out.size
  have hlp := ppager_lt HP.out
  have HB23 : Hid (Below w2.heap.size w2 w3) := HYB.out.trans (HB3.out.mono hsY)
  have HRES : Hid (OwnL yK w3 w.heap.size (.slice A bd.length c) bd ∧ ∃ f', PPager w3 f' { s with turns := s.turns + 1 } F b bf ∧ f.Next f' w.heap.size ∧ Turned f.M w w3 ∧ f'.Off (fun q => (Value.slice A bd.length c).ownBlock = some q)) :=
   ⟨HO.out.mono_ (by omega), f2, ppager_turned HP.out (Turned.of_below HB23.out) (hlp.off fun _ h => h), HN.out, HT.out.trans ((Turned.of_below HB23.out).mono (G := f.M) (fun q hq h => absurd hq (by omega))) (fun _ _ h => h), hlp.off (fun q hq => by have := (OwnL.lt_ HO.out q hq).1; omega)⟩
  clear hs2 hsY hlp
  go_wp2
  go_ret3

  exact ⟨A, c, rfl, HRES.out⟩
 ·have hb : ku = ku ∧ kd = 0 ∧ bd = [] := ⟨rfl, HBAD.out he⟩
  obtain ⟨-, rfl, rfl⟩ := hb
  have HB2 := Lib.hid ((Below.refl w2.heap.size w2).alloc (Nat.le_refl _) (.cells #[.int .u8 (ku : Nat), .slice a1 a2 a3] 108))
  have hs2 := HT.out.size
  have hlp := ppager_lt HP.out
  have HRES : Hid (∃ f', PPager (w2.alloc (.cells #[.int .u8 (ku : Nat), .slice a1 a2 a3] 108)) f' { s with turns := s.turns + 1 } F b bf ∧ f.Next f' w.heap.size ∧ Turned f.M w (w2.alloc (.cells #[.int .u8 (ku : Nat), .slice a1 a2 a3] 108)) ∧ f'.Off (fun q => (Value.slice none 0 0).ownBlock = some q)) :=
   ⟨f2, ppager_turned HP.out (Turned.of_below HB2.out) (hlp.off fun _ h => h), HN.out, HT.out.trans ((Turned.of_below HB2.out).mono (G := f.M) (fun q hq h => absurd hq (by omega))) (fun _ _ h => h), fun q hq => by cases hq⟩
  clear hs2 hlp
  have hne : ((er : Int) == 0) = false := by rw [beq_eq_false_iff_ne]; omega
  go_wp2
  go_ret3

  exact ⟨none, 0, rfl, OwnL.nil_ _ _ _, HRES.out⟩
end
end Go.Proofs.YtiafeniflkikeaaGreat
