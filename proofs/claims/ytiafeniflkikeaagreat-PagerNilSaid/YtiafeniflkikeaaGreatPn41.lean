/- Parts of the proof. -/
import Derived.Test.YtiafeniflkikeaaGreatPn13
import Derived.Test.YtiafeniflkikeaaGreatPn40
import Derived.Test.YtiafeniflkikeaaGreatPn31
import Derived.Test.YtiafeniflkikeaaGreatPn23
import Derived.Test.YtiafeniflkikeaaGreatPn37
import Derived.Test.YtiafeniflkikeaaGreatPn39
import Derived.Test.YtiafeniflkikeaaGreatPn32
import Derived.Test.YtiafeniflkikeaaGreatPn30
import Derived.Test.YtiafeniflkikeaaGreatPn29
import Derived.Test.YtiafeniflkikeaaGreatPn16
import Derived.Test.YtiafeniflkikeaaGreatPn09
import Derived.Test.YtiafeniflkikeaaGreatPn12
import Derived.BigQuiet
namespace Go.Proofs.YtiafeniflkikeaaGreat
open Go.RowKit
set_option linter.unusedVariables false
namespace Pp
theorem gap_in {l : List Pa.Page} : ∀ {c j : Nat}, j < Pa.gap l c → ∃ x ∈ l, x.n = c + j := by
 induction l with
 | nil => intro c j h; simp [Pa.gap] at h
 | cons y l ih =>
  intro c j h
  unfold Pa.gap at h
  split at h
  ·rename_i hy
   cases j with
   | zero => exact ⟨y, by simp, hy⟩
   | succ j =>
    obtain ⟨x, hx, hn⟩ := ih (c := c + 1) (j := j) (by omega)
    exact ⟨x, by simp [hx], by omega⟩
  ·omega
theorem gap_free {l : List Pa.Page} (hr : Pa.Rising l) (h2 : ∀ x ∈ l, 2 ≤ x.n) : ∀ x ∈ l, x.n ≠ 2 + Pa.gap l 2 := by
 obtain ⟨h3, h4⟩ := gap_spec hr h2
 intro x hx
 rw [← List.take_append_drop (Pa.gap l 2) l] at hx
 rcases List.mem_append.1 hx with hx | hx
 ·have := h3 x hx; omega
 ·have := h4 x hx; omega
theorem gap_is {l : List Pa.Page} (hr : Pa.Rising l) (h2 : ∀ x ∈ l, 2 ≤ x.n) {k : Nat} (hk : 2 ≤ k) (hf : ∀ j : Nat, 2 ≤ j → j < k → ∃ x ∈ l, x.n = j) : k ≤ 2 + Pa.gap l 2 := by
 apply Decidable.byContradiction
 intro h
 obtain ⟨x, hx, hn⟩ := hf (2 + Pa.gap l 2) (by omega) (by omega)
 exact gap_free hr h2 x hx hn
theorem gap_at2 {l : List Pa.Page} (hr : Pa.Rising l) (h2 : ∀ x ∈ l, 2 ≤ x.n) {k : Nat} (hk : 2 ≤ k) (hf : ∀ j : Nat, 2 ≤ j → j < k → ∃ x ∈ l, x.n = j) (hn : ∀ x ∈ l, x.n ≠ k) : 2 + Pa.gap l 2 = k := by
 have h1 := gap_is hr h2 hk hf
 apply Decidable.byContradiction
 intro h
 obtain ⟨x, hx, hxn⟩ := gap_in (l := l) (c := 2) (j := k - 2) (by omega)
 exact hn x hx (by omega)
theorem add_mem {l : List Pa.Page} {kd : Nat} {b : List Nat} {x : Pa.Page} : x ∈ Pa.addL l kd b ↔ x ∈ l ∨ x = ⟨2 + Pa.gap l 2, 2, kd, b⟩ := by
 constructor
 ·exact mem_add
 ·unfold Pa.addL
  rintro (h | h)
  ·rw [← List.take_append_drop (Pa.gap l 2) l] at h
   rcases List.mem_append.1 h with h | h
   ·exact List.mem_append.2 (.inl h)
   ·exact List.mem_append.2 (.inr (List.mem_cons_of_mem _ h))
  ·exact List.mem_append.2 (.inr (by rw [h]; exact List.mem_cons_self ..))
end Pp
section
variable {w w' : World} {f fp : Fp} {s : Pp.S} {F : List Nat} {b bf U D P H last frm : Nat} {fP : Int → Option RawU} {fH : Int → Option RawH}
def pyFrom (w : World) (b : Nat) : Nat := match w.cell? ⟨b, 15, none⟩ with
 | some (.int _ k) => k.toNat
 | _ => 0
theorem pyFrom_of {k : Nat} (h : w.cell? ⟨b, 15, none⟩ = some (.int .i64 (k : Nat))) : pyFrom w b = k := by unfold pyFrom; rw [h]; rfl
theorem PyHas.from_ {k : Nat} (h : PyHas w fp s F b bf U D P H last frm fP fH) (hT : Turned (fun q => q = b) w w') (hh : Rw w' b 79 (pyC bf s U D P H last k)) (hk : 2 ≤ k ∧ k ≤ 65536) (hf : ∀ j : Nat, 2 ≤ j → j < k → ∃ x ∈ s.l, x.n = j) :
  PyHas w' fp s F b bf U D P H last k fP fH := by
 have hsb := h.sb
 have hr : ∀ q, fp.R q → ¬ q = b := fun q hq e => (h.r q hq).1 (e ▸ h.ms.1)
 exact ⟨hh, h.used.turned_ hT (by omega), h.drop.turned_ hT (by omega), h.pend.turned_ hT (by omega), h.hand.turned_ hT (by omega), fun j c hc => by obtain ⟨x, a1, a2, a3, a4⟩ := h.hpend j c hc; exact ⟨x, a1, a2, a3, a4.turned hT hr⟩, h.there,
  fun j c hc => by obtain ⟨a1, a2, kd, bd, a3, a4⟩ := h.hhand j c hc; exact ⟨a1, a2, kd, bd, a3.turned hT hr, a4⟩, h.few, h.last, hk, hf, h.sound, h.m, fun q hq => ⟨(h.r q hq).1, Nat.lt_of_lt_of_le (h.r q hq).2 hT.size⟩, h.sb, h.su, h.sd, h.sp⟩
set_option maxHeartbeats 4000000 in
set_option maxRecDepth 100000 in
theorem ppadd_any (kd : Nat) (v : Value) (body : List Nat) (B : Nat) (h : PPager w f s F b bf) (hk : kd < 256) (hv : Lv yK w B v body) (hB : B ≤ w.heap.size) (hM : 0 < body.length → ∀ k, v.ownBlock = some k → ¬ f.M k) :
 Calls Tryz.prog 19 #[.pointer (some ⟨b, 0, none⟩), .int .u8 (kd : Nat), v] w (fun e w' => e = .returned (.tuple #[.int .i64 ((Pa.add (Pp.asM s F) kd body).2.1 : Nat), .int .i64 ((Pa.add (Pp.asM s F) kd body).2.2 : Nat)]) ∧ TurnsP f { s with l := (Pa.add (Pp.asM s F) kd body).1.l } F b bf w w') := by
 obtain ⟨U, D, P, H, last, frm, fP, fH, h⟩ := h
 have CM := Lib.hid (pymade_any (h.cell rfl))
 have HH := Lib.hid h
 have HV := Lib.hid hv
 have HM := Lib.hid hM
 obtain ⟨A, c, rfl, hlc, hcm, hnil, hvr⟩ := hv
 obtain ⟨bl, hbl⟩ : ∃ n, body.length = n := ⟨_, rfl⟩
 by_cases hlim : 496 < bl
 ·have HE : Hid (Pa.add (Pp.asM s F) kd body = (Pp.asM s F, 0, 3)) := by unfold Hid Pa.add; rw [hbl]; exact if_pos hlim
  rw [HE.out]
  rw [hbl] at hlc
  have hd : decide ((496 : Int) < (bl : Int)) = true := decide_eq_true (by omega)
  rw [hbl]
  clear h hnil hvr hM hlc hcm hbl
  go_enter Tryz.func19, Tryz.ntmps19
  go_wp2_with fail
  refine CM.out.mono ?_
  rintro e w1 ⟨rfl, rfl⟩
  clear CM
  go_wp2
  go_ret2
  exact ⟨rfl, TurnsP.same HH.out (Below.refl _ _)⟩
 ·have hd : decide ((496 : Int) < (bl : Int)) = false := decide_eq_false (by omega)
  have HBL := Lib.hid (And.intro hbl hlim)
  rw [hbl] at hlc
  rw [hbl]
  clear h hnil hvr hM hlc hcm hbl hlim
  go_enter Tryz.func19, Tryz.ntmps19
  go_wp2_with fail
  refine CM.out.mono ?_
  rintro e w1 ⟨rfl, rfl⟩
  clear CM
  go_wp2_with fail
  go_loopw [] (fun wr => ∃ k, Hid (PyHas wr f s F b bf U D P H last k fP fH) ∧ Hid (Turned (fun q => q = b ∨ w.heap.size ≤ q) w wr)) (fun wr => 65536 - pyFrom wr b)
  case atStart => exact ⟨frm, HH.out, (Turned.refl _ _)⟩
  case round =>
   obtain ⟨k, HHR, HTR⟩ := hrel
   have c15 : wr.cell? ⟨b, 15, none⟩ = some (.int .i64 (k : Nat)) := HHR.out.cell rfl
   have hk2 := HHR.out.from2
   have HK2 := Lib.hid hk2
   by_cases hlt : k < 65536
   ·have hd1 : decide ((k : Int) < 65536) = true := decide_eq_true (by omega)
    have CF := Lib.hid (pyisFree_any HHR.out (k : Int) (by unfold I64; omega))
    clear hk2
    cases hf : Pa.find s.l (k : Int) with
    | some x =>
     rw [hf] at CF
     go_wp2_with fail
     refine CF.out.mono ?_
     rintro e w2 ⟨rfl, b2⟩
     have HH2 := Lib.hid (HHR.out.below b2)
     have HB2 := Lib.hid b2
     have d15 : w2.cell? ⟨b, 15, none⟩ = some (.int .i64 (k : Nat)) := HH2.out.cell rfl
     have f15 : w2.frozen? ⟨b, 15, none⟩ = false := HH2.out.head.frozen 15
     have hw1 : IntKind.i64.wrap ((k : Int) + 1) = (k : Int) + 1 := by rw [IntKind.wrap_i64]; omega
     obtain ⟨w3, hw3⟩ : ∃ w3, w2.setCell ⟨b, 15, none⟩ (.int .i64 ((k : Int) + 1)) = w3 := ⟨_, rfl⟩
     have HW3 := Lib.hid hw3
     have HX := Lib.hid hf
     clear CF b2 c15 hd1 hf
     go_wp2
     have hT3 : Turned (fun q => q = b) w2 w3 := by rw [← HW3.out]; exact (Turned.refl (fun q => q = b) w2).setCell (p := ⟨b, 15, none⟩) (fun _ => rfl) _
     have hR3 : Rw w3 b 79 (pyC bf s U D P H last (k + 1)) := by rw [← HW3.out, ← pyC_from bf s U D P H last k (k + 1)]; exact HH2.out.head.set 15 _
     have hP3 := HH2.out.from_ (k := k + 1) hT3 hR3 (by have := HK2.out; omega) (fun j h1 h2 => by
      by_cases e : j = k
      ·obtain ⟨y, hy, hn⟩ := Pa.find_some.1 (by rw [HX.out]; rfl)
       exact ⟨y, hy, by omega⟩
      ·exact HH2.out.full j h1 (by omega))
     refine ⟨⟨k + 1, hP3, ?_⟩, ?_⟩
     ·have h1 : Turned (fun q => q = b ∨ w.heap.size ≤ q) w w2 := HTR.out.trans (Turned.of_below HB2.out) (fun q h h' => by have := HTR.out.size; omega)
      exact h1.trans hT3 (fun q _ h => .inl h)
     ·rw [pyFrom_of (k := k + 1) (hP3.cell rfl), pyFrom_of (k := k) (HHR.out.cell rfl)]
      omega
    | none =>
     rw [hf] at CF
     have HFR : Hid (∀ x ∈ s.l, x.n ≠ k) := fun x hx e => by
      have := Pa.find_some.2 ⟨x, hx, show (x.n : Int) = (k : Int) by omega⟩
      rw [hf] at this; cases this
     go_wp2_with fail
     refine CF.out.mono ?_
     rintro e w2 ⟨rfl, b2⟩
     have HH2 := Lib.hid (HHR.out.below b2)
     have HT2 : Hid (Turned (fun q => q = b ∨ w.heap.size ≤ q) w w2) := HTR.out.trans (Turned.of_below b2) (fun q h h' => by have := HTR.out.size; omega)
     have d15 : w2.cell? ⟨b, 15, none⟩ = some (.int .i64 (k : Nat)) := HH2.out.cell rfl
     have hd2 : decide ((65536 : Int) ≤ (k : Int)) = false := decide_eq_false (by omega)
     have hlv2 : Lv yK w2 B (.slice A body.length c) body := HV.out.turnedB_ HT2.out (fun hp q hq h => by
      rcases h with rfl | h
      ·exact HM.out hp _ hq HH.out.ms.1
      ·have := HV.out.blk_ hp hq; omega)
     obtain ⟨Y, hY⟩ : ∃ Y, w2.drew = Y := ⟨_, rfl⟩
     have HYB : Hid (Below w2.heap.size w2 Y) := by unfold Hid; rw [← hY]; exact below_drewN (Below.refl _ _) 1
     have HHY := Lib.hid (HH2.out.below HYB.out)
     have hlvY : Lv yK Y B (.slice A body.length c) body := by rw [← hY]; exact hlv2.drew_
     have CC := Lib.hid (pbclone_any _ _ B Y hlvY (by have := HT2.out.size; have := HYB.out.size; omega) (by have := HBL.out; omega))
     have HCC : Hid (∀ w', Below Y.heap.size Y w' → w'.cell? ⟨b, 11, none⟩ = some (.map (some P)) ∧ w'.cell? ⟨b, 15, none⟩ = some (.int .i64 (k : Nat))) := fun w' hw => ⟨(HHY.out.below hw).cell rfl, (HHY.out.below hw).cell rfl⟩
     clear CF b2 c15 hd1 hf hlv2 hlvY
     rw [HBL.out.1] at CC
     go_wp2_with fail
     refine wp_region_m (fun w' => Below Y.heap.size Y w') 12 (by kernel_rfl) ?_
     rw [hY]
     have hH : Below Y.heap.size Y Y := Below.refl _ _
     refine zM (i := 0) (v := ?_) rfl (by kernel_rfl) (fun _ _ _ h => h) hH (Or.inl ⟨by rfl, (by intro w' hSw; obtain ⟨s0, s1⟩ := HCC.out w' hSw; go_simp; first | done | with_reducible rfl)⟩) ?_
     try simp only [Act.put, zA, zC, zD, zE, zF]
     refine zM (i := 1) (v := ?_) rfl (by kernel_rfl) (fun _ _ _ h => h) hH (Or.inl ⟨by rfl, (by intro w' hSw; obtain ⟨s0, s1⟩ := HCC.out w' hSw; go_simp; first | done | with_reducible rfl)⟩) ?_
     try simp only [Act.put, zA, zB, zC, zD, zE, zF]
     refine zM (i := 2) (v := ?_) rfl (by kernel_rfl) (fun _ _ _ h => h) hH (Or.inl ⟨by rfl, (by intro w' hSw; obtain ⟨s0, s1⟩ := HCC.out w' hSw; go_simp; first | done | with_reducible rfl)⟩) ?_
     try simp only [Act.put, zA, zB, zC, zD, zE, zF]
     refine zM (i := 3) (v := ?_) rfl (by kernel_rfl) (fun _ _ _ h => h) hH (Or.inl ⟨by rfl, (by intro w' hSw; obtain ⟨s0, s1⟩ := HCC.out w' hSw; go_simp; first | done | with_reducible rfl)⟩) ?_
     try simp only [Act.put, zA, zB, zC, zD, zE, zF]
     refine zM (i := 4) (v := ?_) rfl (by kernel_rfl) (fun _ _ _ h => h) hH (Or.inl ⟨by rfl, (by intro w' hSw; obtain ⟨s0, s1⟩ := HCC.out w' hSw; go_simp; first | done | with_reducible rfl)⟩) ?_
     try simp only [Act.put, zA, zB, zC, zD, zE, zF]
     refine zM (i := 5) (v := ?_) rfl (by kernel_rfl) (fun _ _ _ h => h) hH (Or.inl ⟨by rfl, (by intro w' hSw; obtain ⟨s0, s1⟩ := HCC.out w' hSw; go_simp; first | done | with_reducible rfl)⟩) ?_
     try simp only [Act.put, zA, zB, zC, zD, zE, zF]
     refine zM (i := 6) (v := ?_) rfl (by kernel_rfl) (fun _ _ _ h => h) hH (Or.inl ⟨by rfl, (by intro w' hSw; obtain ⟨s0, s1⟩ := HCC.out w' hSw; go_simp; first | done | with_reducible rfl)⟩) ?_
     try simp only [Act.put, zA, zB, zC, zD, zE, zF]
     refine zM (i := 7) (v := ?_) rfl (by kernel_rfl) (fun _ _ _ h => h) hH (Or.inl ⟨by rfl, (by intro w' hSw; obtain ⟨s0, s1⟩ := HCC.out w' hSw; go_simp; first | done | with_reducible rfl)⟩) ?_
     try simp only [Act.put, zA, zB, zC, zD, zE, zF]
     refine zM (i := 8) (v := ?_) rfl (by kernel_rfl) (fun _ _ _ h => h) hH (Or.inl ⟨by rfl, (by intro w' hSw; obtain ⟨s0, s1⟩ := HCC.out w' hSw; go_simp; first | done | with_reducible rfl)⟩) ?_
     try simp only [Act.put, zA, zB, zC, zD, zE, zF]
     refine zM (i := 9) (v := ?_) rfl (by kernel_rfl) (fun _ _ _ h => h) hH (Or.inl ⟨by rfl, (by intro w' hSw; obtain ⟨s0, s1⟩ := HCC.out w' hSw; go_simp; first | done | with_reducible rfl)⟩) ?_
     try simp only [Act.put, zA, zB, zC, zD, zE, zF]
     refine wpAnyM_next (i := 10) (by kernel_rfl) rfl (fun K hK => ?_)
     go_simp
     refine CC.out.mono ?_
     rintro e w3 ⟨A3, c3, rfl, ho3, b3⟩
     refine hK.out _ _ (.inr b3) ?_
     clear hK K CC
     try simp only [Act.put, zA, zB, zC, zD, zE, zF]
     have hbt := ct_built kd A3 body.length c3
     refine zM (i := 11) (v := ?_) rfl (by kernel_rfl) (fun _ _ _ h => h) b3 (Or.inl ⟨by rfl, (by intro w' hSw; skip; go_simp; first | done | with_reducible rfl)⟩) ?_
     try simp only [Act.put, zA, zB, zC, zD, zE, zF]
     obtain ⟨fN, hfN⟩ : ∃ fN : Int → Option RawU, (fun j => if j = (k : Int) then some (⟨kd, ⟨A3, body.length, c3⟩⟩ : RawU) else fP j) = fN := ⟨_, rfl⟩
     have HH3 := Lib.hid (HHY.out.below b3)
     have HO3 := Lib.hid ho3
     have hokk : peM.ok (k : Int) := i64_ok (by unfold I64; omega)
     obtain ⟨w4, hup, hm4, hg4⟩ := HH3.out.pend.upd (by simp only [maxLen]; omega) hokk (⟨kd, ⟨A3, body.length, c3⟩⟩ : RawU)
     change (Instr.mapUpdate 74 (.map (some P)) (.int .i64 (k : Nat)) (.agg #[.int .u8 (kd : Nat), .slice A3 body.length c3])).run Tryz.prog w3 = .ok () w4 at hup
     rw [hfN] at hm4
     have HM4 := Lib.hid hm4
     have HG4 := Lib.hid hg4
     have HT3 : Hid (Turned (fun q => q = b ∨ w.heap.size ≤ q) w w3) := (HT2.out.trans (Turned.of_below HYB.out) (fun q h h' => by have := HT2.out.size; omega)).trans (Turned.of_below b3) (fun q h h' => by have := HT2.out.size; have := HYB.out.size; omega)
     have HFN := Lib.hid hfN
     have HYS : Hid (w.heap.size ≤ Y.heap.size) := Nat.le_trans HT2.out.size HYB.out.size
     refine wpAnyM_next (i := 12) (by kernel_rfl) rfl (fun K hK => ?_)
     go_simp
     refine hK.out _ _ (.inl (Nat.le_refl _)) ?_
     clear hK K hup hm4 hg4 hfN ho3 hokk b3 hH d15 hbt hd2
     try simp only [Act.put, zA, zB, zC, zD, zE, zF]
     refine wpAnyM_done (by kernel_rfl) ?_ _
     have hT4 : Turned (fun q => q = P) w3 w4 := (Turned.of_grown HG4.out).mono (fun q _ h => (Option.some.inj h).symm)
     have e15 : w4.cell? ⟨b, 15, none⟩ = some (.int .i64 (k : Nat)) := by
      have hr : Rw w4 b 79 (pyC bf s U D P H last k) := (hT4.block b HH3.out.head.lt (fun e => HH3.out.sb.2.2.1 e)).trans HH3.out.head
      exact hr.cell 15
     have HT4 := Lib.hid hT4
     clear hT4
     go_wp2
     go_ret2
     have h := HH3.out
     have hgp : 2 + Pa.gap s.l 2 = k := Pp.gap_at2 h.sound.rise (fun x hx => (h.sound.from2 x hx).1) HK2.out.1 h.full HFR.out
     have hbl := HBL.out
     have HE : Pa.add (Pp.asM s F) kd body = ({ (Pp.asM s F) with l := Pa.addL s.l kd body }, k, 0) := by
      unfold Pa.add
      rw [if_neg (by omega)]
      show (if 65536 ≤ 2 + Pa.gap s.l 2 then _ else _) = _
      rw [if_neg (by omega)]
      show (_, 2 + Pa.gap s.l 2, 0) = _
      rw [hgp]
      rfl
     rw [HE]
     refine ⟨rfl, ?_⟩
     show TurnsP f { s with l := Pa.addL s.l kd body } F b bf w w4
     have hms := h.ms
     have hsb := h.sb
     have hsu := h.su
     have hsd := h.sd
     have hsp := h.sp
     have hT := HT4.out
     have hT' : Turned f.M w3 w4 := hT.mono (fun q _ hq => by subst hq; exact hms.2.2.2.1)
     have hmem : ∀ x, x ∈ Pa.addL s.l kd body ↔ x ∈ s.l ∨ x = ⟨k, 2, kd, body⟩ := fun x => by rw [Pp.add_mem, hgp]
     have hown : ∀ q, (Value.slice A3 body.length c3).ownBlock = some q → Y.heap.size ≤ q ∧ q < w3.heap.size := fun q hq => OwnL.lt_ HO3.out q hq
     have hYs := HYS.out
     have hlt0 := HH.out.lt
     have hnP : ∀ q, (Value.slice A3 body.length c3).ownBlock = some q → ¬ f.M q := fun q hq hm => by have := hlt0 q (.inl hm); have := hown q hq; omega
     have hin : InB w4 (fun q => f.R q ∨ (Value.slice A3 body.length c3).ownBlock = some q) ⟨kd, ⟨A3, body.length, c3⟩⟩ kd body :=
      ⟨rfl, hk, ((HO3.out.form_).turnedB_ hT' (fun _ q hq => hnP q hq)).mono_ hT.size, by omega, fun _ q hq => .inr hq⟩
     have hu : Pp.usedF (Pa.addL s.l kd body) = Pp.usedF s.l := Pp.unit_ext (fun j => by
      rw [Pp.usedF_some, Pp.usedF_some]
      constructor
      ·rintro ⟨y, hy, h1, h2⟩
       rcases (hmem y).1 hy with hy | rfl
       ·exact ⟨y, hy, h1, h2⟩
       ·exact absurd rfl h2
      ·rintro ⟨y, hy, h1, h2⟩
       exact ⟨y, (hmem y).2 (.inl hy), h1, h2⟩)
     have hd : Pp.dropF (Pa.addL s.l kd body) = Pp.dropF s.l := Pp.unit_ext (fun j => by
      rw [Pp.dropF_some, Pp.dropF_some]
      constructor
      ·rintro ⟨y, hy, h1, h2⟩
       rcases (hmem y).1 hy with hy | rfl
       ·exact ⟨y, hy, h1, h2⟩
       ·cases h2
      ·rintro ⟨y, hy, h1, h2⟩
       exact ⟨y, (hmem y).2 (.inl hy), h1, h2⟩)
     have hfN := HFN.out
     have hsm : Pp.Small fN := fun j cc hc => by
      rw [← hfN] at hc
      simp only at hc
      split at hc
      ·omega
      ·exact h.small_pend j cc hc
     have hnew := h.make (l' := Pa.addL s.l kd body) (frm' := k) (fP' := fN) (fun q => f.R q ∨ (Value.slice A3 body.length c3).ownBlock = some q) (fun _ h => .inl h)
      (fun q hq => by
       rcases hq with hq | hq
       ·exact ⟨(h.r q hq).1, Nat.lt_of_lt_of_le (h.r q hq).2 hT.size⟩
       ·exact ⟨hnP q hq, by have := hown q hq; have := hT.size; omega⟩) hT' ((hT.block b h.head.lt (by omega)).trans h.head)
      (by rw [hu]; exact h.used.turned_ hT (by omega)) (by rw [hd]; exact h.drop.turned_ hT (by omega)) (HM4.out.tight peM_ok pe_ok hsm) (h.hand.turned_ hT (by omega))
      (fun j cc hc => by
       rw [← hfN] at hc
       simp only at hc
       split at hc
       ·rename_i e
        have e2 := Option.some.inj hc
        subst e2
        exact ⟨⟨k, 2, kd, body⟩, (hmem _).2 (.inr rfl), e.symm, rfl, hin⟩
       ·obtain ⟨y, a1, a2, a3, a4⟩ := h.hpend j cc hc
        exact ⟨y, (hmem y).2 (.inl a1), a2, a3, (a4.turned hT' (fun q hq hm => (h.r q hq).1 hm)).more (fun _ h => .inl h)⟩)
      (fun y hy hs => by
       rw [← hfN]
       simp only
       split
       ·rfl
       ·rename_i hne
        rcases (hmem y).1 hy with hy | rfl
        ·exact h.there y hy hs
        ·exact absurd rfl hne)
      (fun y hy hs => ⟨y, (hmem y).2 (.inl hy), rfl, hs⟩) HK2.out (fun j h1 h2 => by
       obtain ⟨y, hy, hn⟩ := h.full j h1 h2
       exact ⟨y, (hmem y).2 (.inl hy), hn⟩) (Pp.rising_add h.sound.rise (fun x hx => (h.sound.from2 x hx).1) kd body) (fun y hy => by
       rcases (hmem y).1 hy with hy | rfl
       ·exact h.sound.from2 y hy
       ·exact ⟨HK2.out.1, by show k < 65536; omega, .inr (.inl rfl)⟩)
     refine ⟨_, ⟨_, _, _, _, _, _, _, _, hnew⟩, ⟨fun q hq => .inl hq, fun q hq => hq.imp id (fun h => by have := hown q h; omega)⟩, ?_⟩
     have h3 : Turned f.M w w3 := HT3.out.mono (fun q hq h => by rcases h with rfl | h; exact hms.1; omega)
     exact h3.trans hT' (fun _ _ h => h)
   ·have e : k = 65536 := by omega
    subst e
    clear hlt hk2
    have hd1 : decide ((65536 : Int) < 65536) = false := rfl
    go_wp2
    go_ret2
    have h := HHR.out
    have hbl := HBL.out
    have hge := Pp.gap_is h.sound.rise (fun x hx => (h.sound.from2 x hx).1) (by omega) h.full
    have HE : Pa.add (Pp.asM s F) kd body = (Pp.asM s F, 0, 3) := by
     unfold Pa.add
     rw [if_neg (by omega)]
     show (if 65536 ≤ 2 + Pa.gap s.l 2 then _ else _) = _
     rw [if_pos hge]
    rw [HE]
    exact ⟨rfl, f, ⟨_, _, _, _, _, _, _, _, h⟩, Fp.Next.refl _ _, HTR.out.mono (fun q hq h' => by rcases h' with rfl | h'; exact h.ms.1; omega)⟩
end
end Go.Proofs.YtiafeniflkikeaaGreat
namespace Go.Proofs.YtiafeniflkikeaaGreat
open Go.RowKit
theorem ppopen_some {w : World} {fd : Fp} {t : Sf.St} {bf : Nat} (name : ByteArray) (cache : Int) (hD : PDisk w fd t bf) (hn : name.size ≤ 4096) (hc : I64 cache) (s0 : Pp.S) (ho : Pp.openE t name cache = (some s0, 0)) :
  Calls Tryz.prog 7 #[.pointer (some ⟨bf, 0, none⟩), .string name, .int .i64 cache] w (fun e w' => Below w.heap.size w w' ∧ ∃ b f', e = .returned (.tuple #[.pointer (some ⟨b, 0, none⟩), .int .i64 0]) ∧ PPager w' f' s0 (Sf.now (Sf.fileAt t (Sf.get t name).1)) b bf ∧ f'.From w.heap.size) := by
 refine (ppopen_any name cache hD hn hc).mono (fun e w' h => ?_)
 obtain ⟨h0, ⟨h1, _⟩ | ⟨s, b, f', h1, h2, h3, h4⟩⟩ := h
 ·rw [ho] at h1; cases h1
 ·rw [ho] at h1
  obtain rfl : s0 = s := Option.some.inj (Prod.mk.inj h1).1
  exact ⟨h0, b, f', h2, h3, h4⟩
end Go.Proofs.YtiafeniflkikeaaGreat
namespace Go.Proofs.YtiafeniflkikeaaGreat.Pp
set_option linter.unusedVariables false
theorem may_new : Rt.May Pa.new.root := by unfold Rt.May Pa.new; decide +kernel
theorem told_made : told made = (Pa.new.root, 0) := by
 obtain ⟨P, h1, h2, h3⟩ := Rt.put_page may_new
 have e1 : ((Pa.new.root.seq % 2 : Nat) : Int) = 1 := rfl
 rw [e1] at h1 h3
 have hp : P = Pg.page 1 1 (Rt.bys (Rt.nums Pa.new.root)) := (Pg.getE_put h1).2.1
 have hl : P.length = 512 := (Rt.page_len h2).1
 have hm : made = List.replicate 512 0 ++ P := by rw [hp]; rfl
 unfold told
 have hz : (List.replicate 512 0 : List Nat).length = 512 := List.length_replicate
 obtain ⟨Q, hQ⟩ : ∃ Q : List Nat, List.replicate 512 0 = Q := ⟨_, rfl⟩
 rw [hQ] at hm hz
 have ht : made.take 512 = Q := by rw [hm, List.take_append_of_le_length (by omega), List.take_of_length_le (by omega)]
 have hd : (made.drop 512).take 512 = P := by rw [hm, List.drop_append_of_le_length (by omega), List.drop_of_length_le (by omega), List.nil_append, List.take_of_length_le (by omega)]
 subst hQ
 rw [ht, hd]
 have h0 : (Pg.getE 0 (List.replicate 512 0)).2.2 ≠ 0 := by
  exact Pg.noughts 0
 have h4 : (Rt.getE 0 (List.replicate 512 0)).2 ≠ 0 := by
  obtain ⟨⟨k, c, e⟩, hg⟩ : ∃ x, Pg.getE 0 (List.replicate 512 0) = x := ⟨_, rfl⟩
  rw [hg] at h0
  rw [Rt.getE_page (by omega) hg h0]
  exact h0
 unfold Rt.pickE
 rw [if_neg (by rw [h3]; intro h; exact h.2 rfl), if_neg (by intro h; exact h4 h.1), h3]
theorem made_len : made.length = 1024 := by
 obtain ⟨P, h1, h2, h3⟩ := Rt.put_page may_new
 have e1 : ((Pa.new.root.seq % 2 : Nat) : Int) = 1 := rfl
 rw [e1] at h1
 have hp : P = Pg.page 1 1 (Rt.bys (Rt.nums Pa.new.root)) := (Pg.getE_put h1).2.1
 have hl : P.length = 512 := (Rt.page_len h2).1
 show (List.replicate 512 0 ++ Pg.page 1 1 (Rt.bys (Rt.nums Pa.new.root))).length = 1024
 rw [List.length_append, ← hp, hl, List.length_replicate]
theorem goes_new (name : ByteArray) (cache : Nat) : Goes ⟨name, Pa.new.root, cache, [], 0⟩ made Pa.new :=
 ⟨rfl, rfl, ⟨may_new, List.Pairwise.nil, (fun x hx => absurd hx List.not_mem_nil)⟩, made_len.symm, (fun x hx => absurd hx List.not_mem_nil), (fun x hx => absurd hx List.not_mem_nil), told_made⟩
theorem open_made {t : Sf.St} {name : ByteArray} {k : Nat} (hg : Sf.get t name = (k, 0)) (hf : Sf.now (Sf.fileAt t k) = made) (cache : Int) (h0 : 0 ≤ cache) (h1 : cache ≤ 256) :
  openE t name cache = (some ⟨name, Pa.new.root, cache.toNat, [], 0⟩, 0) := by
 unfold openE
 rw [if_neg (by omega), hg, if_neg (by simp), hf, if_neg (by rw [made_len]; omega), told_made, if_neg (by simp)]
end Go.Proofs.YtiafeniflkikeaaGreat.Pp
namespace Go.Proofs.YtiafeniflkikeaaGreat
open Go.RowKit
set_option linter.unusedVariables false
end Go.Proofs.YtiafeniflkikeaaGreat
