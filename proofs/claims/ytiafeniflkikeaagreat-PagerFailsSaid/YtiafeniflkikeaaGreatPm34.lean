/- Parts of the proof. -/
import Derived.Test.YtiafeniflkikeaaGreatPm03
import Derived.Test.YtiafeniflkikeaaGreatPm33
import Derived.Test.YtiafeniflkikeaaGreatPm32
namespace Go.Proofs.YtiafeniflkikeaaGreat.Rt
def pk (k : Nat) (a b : List Nat) : Root × Nat := if k = 0 then pickE a b else pickE b a
theorem pk_both {r s : Root} {k : Nat} {a b : List Nat} (hk : k = 0 ∨ k = 1) (hq : s.seq = r.seq + 1) (ha : getE (k : Nat) a = (r, 0)) (hb : getE ((1 - k : Nat) : Int) b = (s, 0)) : pk k a b = (s, 0) := by
 unfold pk pickE
 rcases hk with rfl | rfl
 ·have h0 : getE 0 a = (r, 0) := ha
  have h1 : getE 1 b = (s, 0) := hb
  simp only [h0, h1]
  rw [if_pos trivial, if_neg (by simp), if_neg (by omega)]
 ·have h0 : getE 1 a = (r, 0) := ha
  have h1 : getE 0 b = (s, 0) := hb
  simp only [h0, h1]
  rw [if_neg (by omega), if_neg (by simp), if_pos ⟨trivial, .inr (by show r.seq < s.seq; omega)⟩]
theorem pk_first {r x : Root} {k e : Nat} {a b : List Nat} (hk : k = 0 ∨ k = 1) (he : e ≠ 0) (ha : getE (k : Nat) a = (r, 0)) (hb : getE ((1 - k : Nat) : Int) b = (x, e)) : pk k a b = (r, 0) := by
 unfold pk pickE
 rcases hk with rfl | rfl
 ·have h0 : getE 0 a = (r, 0) := ha
  have h1 : getE 1 b = (x, e) := hb
  simp only [h0, h1]
  rw [if_pos trivial, if_neg (by simp), if_pos ⟨trivial, .inl he⟩]
 ·have h0 : getE 1 a = (r, 0) := ha
  have h1 : getE 0 b = (x, e) := hb
  simp only [h0, h1]
  rw [if_neg (by omega), if_neg (by simp), if_neg (fun h => he h.1)]
theorem pk_second {s x : Root} {k e : Nat} {a b : List Nat} (hk : k = 0 ∨ k = 1) (he : e ≠ 0) (ha : getE (k : Nat) a = (x, e)) (hb : getE ((1 - k : Nat) : Int) b = (s, 0)) : pk k a b = (s, 0) := by
 unfold pk pickE
 rcases hk with rfl | rfl
 ·have h0 : getE 0 a = (x, e) := ha
  have h1 : getE 1 b = (s, 0) := hb
  simp only [h0, h1]
  rw [if_pos trivial, if_neg (fun h => h.2 rfl), if_neg (fun h => he h.1)]
 ·have h0 : getE 1 a = (x, e) := ha
  have h1 : getE 0 b = (s, 0) := hb
  simp only [h0, h1]
  rw [if_neg (by omega), if_neg (fun h => h.1 rfl), if_pos ⟨trivial, .inl he⟩]
theorem get_put {r : Root} {P : List Nat} (h : putE r = (P, 0)) : getE ((r.seq % 2 : Nat) : Int) P = (r, 0) := by
 obtain ⟨P', -, h1, h2⟩ := put_page (page_len h).2
 rw [h] at h1
 simp only [Prod.mk.injEq, and_true] at h1
 rw [h1]; exact h2
theorem back {r s : Root} {P Q : List Nat} (hP : putE r = (P, 0)) (hQ : putE s = (Q, 0)) (hq : s.seq = r.seq + 1) :
  pk (r.seq % 2) P Q = (s, 0) ∧ ∀ p y, p < 512 → y < 256 → (Q[p]? ≠ some y → pk (r.seq % 2) P (Q.set p y) = (r, 0)) ∧ (P[p]? ≠ some y → pk (r.seq % 2) (P.set p y) Q = (s, 0)) := by
 have hk : r.seq % 2 = 0 ∨ r.seq % 2 = 1 := by omega
 have e1 : s.seq % 2 = 1 - r.seq % 2 := by omega
 have g1 := get_put hP
 have g2 := get_put hQ
 rw [e1] at g2
 refine ⟨pk_both hk hq g1 g2, fun p y hp hy => ⟨fun h => ?_, fun h => ?_⟩⟩
 ·obtain ⟨e, he, h1⟩ := one (page_len hQ).2 hQ hp hy h
  rw [e1] at h1
  exact pk_first hk he g1 h1
 ·obtain ⟨e, he, h1⟩ := one (page_len hP).2 hP hp hy h
  exact pk_second hk he h1 g2
end Go.Proofs.YtiafeniflkikeaaGreat.Rt
namespace Go.Proofs.YtiafeniflkikeaaGreat
end Go.Proofs.YtiafeniflkikeaaGreat
namespace Go.Proofs.YtiafeniflkikeaaGreat
open Go.RowKit
set_option linter.unusedVariables false
namespace Rt
theorem getE_place {place : Int} {b : List Nat} {r : Root} (h : getE place b = (r, 0)) : place = ((r.seq % 2 : Nat) : Int) := by
 unfold getE at h
 repeat' split at h
 all_goals first
  | (simp at h; done)
  | (simp only [Prod.mk.injEq] at h; obtain ⟨rfl, _⟩ := h; omega)
theorem pick_at {a b : List Nat} {r : Root} (h : pickE a b = (r, 0)) : (r.seq % 2 = 0 ∧ getE 0 a = (r, 0)) ∨ (r.seq % 2 = 1 ∧ getE 1 b = (r, 0)) := by
  unfold pickE at h
  split at h
  · simp at h
  · rename_i h1
    split at h
    · rename_i h2
      have h3 : getE 0 a = (r, 0) := Prod.ext (Prod.mk.inj h).1 h2.1
      exact .inl ⟨by have := getE_place h3; omega, h3⟩
    · rename_i h2
      have h4 : (getE 1 b).2 = 0 := by
        by_cases h5 : (getE 1 b).2 = 0
        · exact h5
        · exact absurd ⟨by by_cases h6 : (getE 0 a).2 = 0; · exact h6
                           · exact absurd ⟨h6, h5⟩ h1, .inl h5⟩ h2
      have h3 : getE 1 b = (r, 0) := Prod.ext (Prod.mk.inj h).1 h4
      exact .inr ⟨by have := getE_place h3; omega, h3⟩
end Rt
namespace Pp
theorem told_pages (F : List Nat) : told F = Rt.pickE (pageOf F 0) (pageOf F 1) := by unfold told pageOf; simp
theorem told_next {F G : List Nat} {r R : Rt.Root} {Pb : List Nat} (hF : told F = (r, 0)) (hm : Rt.May r) (hR : R.seq = r.seq + 1) (hP : Rt.putE R = (Pb, 0)) (h1 : pageOf G (R.seq % 2) = Pb) (h2 : pageOf G (1 - R.seq % 2) = pageOf F (1 - R.seq % 2)) : told G = (R, 0) := by
 have hg := Rt.get_put hP
 rw [told_pages] at hF ⊢
 rcases Rt.pick_at hF with ⟨q, hq⟩ | ⟨q, hq⟩
 ·have e : R.seq % 2 = 1 := by omega
  rw [e] at h1 h2 hg
  have := Rt.pk_both (k := 0) (.inl rfl) hR hq hg
  unfold Rt.pk at this
  rw [if_pos rfl] at this
  rw [h1, h2]; exact this
 ·have e : R.seq % 2 = 0 := by omega
  rw [e] at h1 h2 hg
  have := Rt.pk_both (k := 1) (.inr rfl) hR hq hg
  unfold Rt.pk at this
  rw [if_neg (by omega)] at this
  rw [h1, h2]; exact this
end Pp
end Go.Proofs.YtiafeniflkikeaaGreat
namespace Go.Proofs.YtiafeniflkikeaaGreat
open Go.RowKit
set_option linter.unusedVariables false
namespace Pp
theorem pageF_len {x : Pa.Page} (hb : x.body.length ≤ 496) : (pageF x).length = 512 := Pg.page_len hb
def rootPage (R : Rt.Root) : Pa.Page := ⟨R.seq % 2, 2, 1, Rt.bys (Rt.nums R)⟩
theorem rootPage_eq {R : Rt.Root} {Pb : List Nat} (hP : Rt.putE R = (Pb, 0)) : pageF (rootPage R) = Pb := by
 obtain ⟨P, h1, h2, _⟩ := Rt.put_page (Rt.page_len hP).2
 rw [hP] at h2
 have e : P = Pb := (Prod.mk.inj h2).1.symm
 subst e
 have := (Pg.getE_put h1).2.1
 rw [Int.toNat_natCast] at this
 exact this.symm
theorem rootF_eq {G Pb : List Nat} {R : Rt.Root} (hP : Rt.putE R = (Pb, 0)) (hG : 1024 ≤ G.length) : Sf.done G ⟨false, 512 * (R.seq % 2), Pb⟩ = putF G (rootPage R) := by
 unfold putF
 rw [rootPage_eq hP]
 have : fillF G (512 * (rootPage R).n) = G := if_pos (by show 512 * (R.seq % 2) ≤ _; omega)
 rw [this]
 rfl
theorem new_of {s : S} {F Pb : List Nat} {R : Rt.Root} (h : Sound s F) (hR : R.seq = s.root.seq + 1) (hP : Rt.putE R = (Pb, 0)) (hb : ∀ x ∈ pend s.l, x.body.length ≤ 496) :
  New s F (Sf.done (putsF F (pend s.l)) ⟨false, 512 * (R.seq % 2), Pb⟩) R := by
 have hpm : ∀ x ∈ pend s.l, x ∈ s.l ∧ x.state = 2 := fun x hx => by
  have := List.mem_filter.1 hx
  exact ⟨this.1, by simpa using this.2⟩
 have hp : ∀ x ∈ pend s.l, (pageF x).length = 512 := fun x hx => pageF_len (hb x hx)
 have hr : Pa.Rising (pend s.l) := List.Pairwise.filter _ h.rise
 have hoff := putsF_off (F := F) (m := pend s.l) hp (fun _ h => h)
 have hbig := h.big
 have hge := hoff.1
 have hpg : (pageF (rootPage R)).length = 512 := by rw [rootPage_eq hP]; exact (Rt.page_len hP).1
 rw [rootF_eq hP (by omega)]
 have hro : Off (putsF F (pend s.l)) (putF (putsF F (pend s.l)) (rootPage R)) [rootPage R] := putF_off hpg (by simp)
 have hrn : (rootPage R).n = R.seq % 2 := rfl
 have hpage : ∀ n, n ≠ R.seq % 2 → 512 * (n + 1) ≤ (putsF F (pend s.l)).length → pageOf (putF (putsF F (pend s.l)) (rootPage R)) n = pageOf (putsF F (pend s.l)) n := fun n hn hl =>
  hro.page hl (fun x hx => by rw [List.mem_singleton.1 hx, hrn]; omega)
 have hl : (putsF F (pend s.l)).length = Pa.sizeL F.length s.l := by rw [putsF_len hp, sizeL_pend]
 refine ⟨?_, ?_, fun x hx hs => ?_, fun x hx hs hn hF => ?_⟩
 ·rw [putF_len hpg, hrn, hl]; omega
 ·refine told_next h.told h.root hR hP ?_ ?_
  ·have := putF_page (F := putsF F (pend s.l)) hpg
   rw [rootPage_eq hP] at this
   exact this
  ·rw [hpage _ (by omega) (by omega)]
   exact hoff.page (by omega) (fun x hx => by have := (h.from2 x (hpm x hx).1).1; omega)
 ·have hxp : x ∈ pend s.l := List.mem_filter.2 ⟨hx, by simpa using hs⟩
  have := (h.from2 x hx).1
  have hsz := sizeL_ge (s := F.length) hx hs
  rw [hpage _ (by omega) (by omega)]
  exact putsF_page hr hp x hxp
 ·have := (h.from2 x hx).1
  rw [hpage _ (by omega) (by omega)]
  exact hoff.page hF (fun z hz => by
   intro e
   have := rising_inj h.rise (hpm z hz).1 hx e
   subst this
   exact hs (hpm z hz).2)
theorem Off.page_same {F G : List Nat} {l : List Pa.Page} (h : Off F G l) (hl : G.length = F.length) {n : Nat} (hn : ∀ x ∈ l, x.n ≠ n) : pageOf G n = pageOf F n := by
 unfold pageOf
 refine List.ext_getElem? (fun i => ?_)
 by_cases hi : i < 512
 ·rw [List.getElem?_take_of_lt hi, List.getElem?_take_of_lt hi, List.getElem?_drop, List.getElem?_drop]
  by_cases hq : 512 * n + i < F.length
  ·exact h.2 _ hq (fun x hx => by have := hn x hx; omega)
  ·rw [List.getElem?_eq_none (by omega), List.getElem?_eq_none (by omega)]
 ·rw [List.getElem?_eq_none (by rw [List.length_take]; omega), List.getElem?_eq_none (by rw [List.length_take]; omega)]
theorem keeps_of {s : S} {F G : List Nat} (h : Sound s F) (ho : Off F G (pend s.l)) (hl : G.length = F.length) : Keeps s F G := by
 have hpm : ∀ x ∈ pend s.l, x ∈ s.l ∧ x.state = 2 := fun x hx => by
  have := List.mem_filter.1 hx
  exact ⟨this.1, by simpa using this.2⟩
 refine ⟨hl, ?_, fun x hx hs => ho.page_same hl (fun z hz => ?_)⟩
 ·rw [told_pages, told_pages, ho.page_same hl (fun x hx => by have := (h.from2 x (hpm x hx).1).1; omega), ho.page_same hl (fun x hx => by have := (h.from2 x (hpm x hx).1).1; omega)]
 ·intro e
  have := rising_inj h.rise (hpm z hz).1 hx e
  subst this
  exact hs (hpm z hz).2
end Pp
end Go.Proofs.YtiafeniflkikeaaGreat
namespace Go.Proofs.YtiafeniflkikeaaGreat
open Go.RowKit
set_option linter.unusedVariables false
def Pp.WCom (s : Pp.S) (F : List Nat) (t : Sf.St) (k : Nat) (r : Rt.Root) (x : Nat) (t' : Sf.St) : Prop :=
 (x = 0 ∧ t'.dead = false ∧ ∃ F', Pp.New s F F' (Pp.rootOf s r) ∧ Pp.Com s F t k r 0 { s with root := Pp.rootOf s r, l := (Pa.keep s.l).map Pa.used, turns := s.turns + 65536 } F' t') ∨
 (x ≠ 0 ∧ ∃ F', Pp.Com s F t k r x s F' t' ∧ (t'.dead = false → Pp.Keeps s F F'))
section
variable {w w' : World} {fp fd : Fp} {s : Pp.S} {F F' : List Nat} {b bf U D P H last frm : Nat} {fP : Int → Option RawU} {fH : Int → Option RawH} {t : Sf.St}
theorem PyHas.keeps (h : PyHas w fp s F b bf U D P H last frm fP fH) (hk : Pp.Keeps s F F') : PyHas w fp s F' b bf U D P H last frm fP fH := by
 refine ⟨h.head, h.used, h.drop, h.pend, h.hand, h.hpend, h.there, fun k c hc => ?_, h.few, h.last, h.from2, h.full, ⟨h.sound.root, h.sound.rise, h.sound.from2, by rw [hk.told]; exact h.sound.told, by rw [hk.len]; exact h.sound.big, h.sound.cache, h.sound.name⟩, h.m, h.r, h.sb, h.su, h.sd, h.sp⟩
 obtain ⟨⟨x, a1, a2, a3⟩, a4, kd, bd, a5, a6⟩ := h.hhand k c hc
 refine ⟨⟨x, a1, a2, a3⟩, a4, kd, bd, a5, ?_⟩
 have e : k.toNat = x.n := by omega
 rw [e] at a6 ⊢
 unfold Pp.rdE at a6 ⊢
 rw [hk.len, hk.used x a1 a3]
 exact a6
def IsCommit (s : Pp.S) (F : List Nat) (t : Sf.St) (k : Nat) (r : Rt.Root) (f fd : Fp) (b bf : Nat) (w : World) (e : Ending) (w' : World) : Prop :=
 ∃ (x : Nat) (s' : Pp.S) (F' : List Nat) (t' : Sf.St) (f' fd' : Fp), e = .returned (.int .i64 (x : Nat)) ∧ Pp.Com s F t k r x s' F' t' ∧ PDisk w' fd' t' bf ∧ fd.Next fd' w.heap.size ∧
  (t'.dead = false → PPager w' f' s' F' b bf ∧ f.Next f' w.heap.size ∧ f'.Apart fd') ∧ Turned (fun q => f.M q ∨ fd.M q) w w'
theorem Pp.there_need (l : List Pa.Page) (p : Int) : Pa.there l p = (decide (p = 0) || Pp.need l p) := rfl
theorem ppcommit_of (h : PPager w fp s F b bf) (hD : PDisk w fd t bf) (hap : fp.Apart fd) (r : Rt.Root) (hfit : Rt.Fit r) (k : Nat) (ha : t.acts ≤ 1099511300000) (htn : s.turns ≤ 1099511627776) (hg : Sf.get t s.name = (k, 0)) (hF : Sf.now (Sf.fileAt t k) = F) (hsz : F.length < 9223372036854775808)
  (hcom : (r.page = 0 ∨ Pp.need s.l r.page = true) → Pp.Sound s F → (∀ x ∈ Pp.pend s.l, x.body.length ≤ 496) → ∀ Pb, Rt.putE (Pp.rootOf s r) = (Pb, 0) → ∀ x t', Pp.writeE s.name t (Pp.pend s.l) ((Pp.rootOf s r).seq % 2) Pb = (x, t') → Pp.WCom s F t k r x t') :
  Calls Tryz.prog 25 #[.pointer (some ⟨b, 0, none⟩), .agg (rtC r)] w (IsCommit s F t k r fp fd b bf w) := by
 obtain ⟨U, D, P, H, last, frm, fP, fH, h⟩ := h
 have hsize : Sf.size t s.name = (F.length, 0) := by rw [Sf.size_get hg]; unfold Sf.len; rw [hF]
 have hbody : ∀ x ∈ Pp.pend s.l, x.body.length ≤ 496 := fun x hx => by
  have hm := List.mem_filter.1 hx
  obtain ⟨c, hc⟩ := Option.isSome_iff_exists.1 (h.there x hm.1 (by simpa using hm.2))
  obtain ⟨y, hy, hn, hs, hin⟩ := h.hpend _ c hc
  obtain rfl : y = x := Pp.rising_inj h.sound.rise hy hm.1 (by omega)
  exact hin.len
 refine (pycommit_any h hD hap ha r hfit htn (by rw [hsize]; exact hsz)).mono (fun e w' hc => ?_)
 have hlt := pdisk_law.lt hD
 rcases hc with ⟨rfl, hno, hb⟩ | ⟨hnd, Pb, hput, x, t', hwe, hc⟩
 ·refine ⟨2, s, F, t, fp, fd, rfl, .arg ?_, pdisk_law.below hD hb, Fp.Next.refl _ _, fun _ => ⟨⟨_, _, _, _, _, _, _, _, h.below hb⟩, Fp.Next.refl _ _, hap⟩, (Turned.of_below hb).mono (fun q hq h => absurd hq (by omega))⟩
  unfold Pa.commit
  rw [if_pos]
  rcases hno with ⟨h1, h2⟩ | h1
  ·left
   show Pa.there s.l r.page = false
   rw [Pp.there_need, h2, decide_eq_false h1]
   rfl
  ·exact .inr h1
 ·have hw := hcom hnd h.sound hbody Pb hput x t' hwe
  rcases hc with ⟨hx, he, fd', hD', hN', hT'⟩ | ⟨hx, w1, ⟨he1, fd', hD1, hN1, hT1⟩, hs⟩
  ·rcases hw with ⟨h0, -⟩ | ⟨-, F', hC, hK⟩
   ·exact absurd h0 hx
   ·refine ⟨x, s, F', t', fp, fd', he, hC, hD', hN', fun hd => ⟨⟨_, _, _, _, _, _, _, _, (h.turned hT' hap.1).keeps (hK hd)⟩, Fp.Next.refl _ _, (hap.symm.next hN' h.lt).symm⟩, hT'.mono (fun _ _ h => .inr h)⟩
  ·subst hx
   rcases hw with ⟨-, hdd, F', hN, hC⟩ | ⟨h0, -⟩
   ·have h1 := h.turned hT1 hap.1
    have hap1 : fp.Apart fd' := (hap.symm.next hN1 h.lt).symm
    obtain ⟨last', fN, h2⟩ := IsSettled.has h1 hs hN (Rt.page_len hput).2
    obtain ⟨_, _, _, _, _, _, _, _, _, _, _, _, _, hT2⟩ := id hs
    exact ⟨0, _, F', t', fp, fd', he1, hC, pdisk_law.turned hD1 hT2 hap1.2, hN1, fun _ => ⟨⟨_, _, _, _, _, _, _, _, h2⟩, Fp.Next.refl _ _, hap1⟩, (hT1.mono (G := fun q => fp.M q ∨ fd.M q) (fun _ _ h => .inr h)).trans hT2 (fun _ _ h => .inl h)⟩
   ·exact absurd rfl h0
end
end Go.Proofs.YtiafeniflkikeaaGreat
