/- Parts of the proof. -/
import Derived.Test.YtiafeniflkikeaaGreatPm35
import Derived.Test.YtiafeniflkikeaaGreatPm21
import Derived.Test.YtiafeniflkikeaaGreatPm23
import Derived.Test.YtiafeniflkikeaaGreatPm28
namespace Go.Proofs.YtiafeniflkikeaaGreat
open Go.RowKit
set_option linter.unusedVariables false
namespace Pp
structure Way (s : ByteArray) (k : Nat) (t : Sf.St) (F : List Nat) (m : List Pa.Page) (u : Sf.St) : Prop where
 on : Sf.OnA s k t u
 free : ∃ l, Sf.fileAt u k = ⟨(Sf.fileAt t k).sure, (Sf.fileAt t k).row ++ l⟩ ∧ Frees F m F l
def Lost (k : Nat) (t : Sf.St) (F : List Nat) (m : List Pa.Page) (v : Sf.St) : Prop :=
 ∃ l, Sf.Died k t v ⟨(Sf.fileAt t k).sure, (Sf.fileAt t k).row ++ l⟩ ∧ Frees F m F l
section
variable {t u : Sf.St} {k : Nat} {s : ByteArray} {F G : List Nat} {m : List Pa.Page}
theorem now_more {f : Sf.File} (hF : Sf.now f = F) (l : List Sf.Act) : Sf.now ⟨f.sure, f.row ++ l⟩ = l.foldl Sf.done F := by
 unfold Sf.now at hF ⊢
 rw [List.foldl_append, hF]
theorem Way.off (h : Way s k t F m u) (hF : Sf.now (Sf.fileAt t k) = F) : Off F (Sf.now (Sf.fileAt u k)) m := by
 obtain ⟨l, h1, h2⟩ := h.free
 have := (Frees.off h2 (Off.refl F m) l.length).1
 rw [List.take_length] at this
 rw [h1, now_more hF]
 exact this
theorem Way.add (h : Way s k t F m u) (hF : Sf.now (Sf.fileAt t k) = F) {a : Sf.Act} (ha : Free F m a) (hl : a.at_ ≤ Sf.len u k) :
  (∃ v, Sf.add u k a = (0, v) ∧ Way s k t F m v ∧ Sf.now (Sf.fileAt v k) = Sf.done (Sf.now (Sf.fileAt u k)) a ∧ v.acts = u.acts + 1 ∧ Sf.used v + Sf.len u k = Sf.used u + Sf.len v k) ∨
  (∃ v, Sf.add u k a = (13, v) ∧ v.acts = u.acts + 1 ∧ Lost k t F m v) := by
 obtain ⟨l, h1, h2⟩ := h.free
 have h3 : Frees F m F (l ++ [a]) := h2.snoc ha (by unfold Sf.len at hl; rw [h1, now_more hF] at hl; exact hl)
 have e : (⟨(Sf.fileAt u k).sure, (Sf.fileAt u k).row ++ [a]⟩ : Sf.File) = ⟨(Sf.fileAt t k).sure, (Sf.fileAt t k).row ++ (l ++ [a])⟩ := by rw [h1, List.append_assoc]
 rcases h.on.add a with ⟨v, q1, q2⟩ | ⟨v, q1, q2, q3⟩
 ·refine .inl ⟨v, q1, ⟨q2.on, l ++ [a], q2.file.trans e, h3⟩, ?_, q2.acts, q2.used⟩
  rw [q2.file, Sf.now_snoc]
 ·rw [e] at q3
  exact .inr ⟨v, q1, q2, l ++ [a], q3, h3⟩
theorem free_page {x : Pa.Page} (hx : x ∈ m) (hp : (pageF x).length = 512) : Free F m ⟨false, 512 * x.n, pageF x⟩ := .inr ⟨rfl, fun i h1 h2 h3 => ⟨x, hx, h1, by simp only at h2; omega⟩⟩
theorem free_end (h : F.length ≤ G.length) (b : List Nat) : Free F m ⟨false, G.length, b⟩ := .inr ⟨rfl, fun i h1 h2 h3 => by simp only at h1; omega⟩
theorem putsE_way {x : Pa.Page} (h : Way s k t F m u) (hF : Sf.now (Sf.fileAt t k) = F) (hG : Sf.now (Sf.fileAt u k) = G) (hx : x ∈ m) (hp : (pageF x).length = 512) :
  (u.room < Sf.used u + (max G.length (512 * (x.n + 1)) - G.length) ∧ G.length < 512 * (x.n + 1) ∧ ∃ u', putsE s u x = (9, u') ∧ Way s k t F m u' ∧ u'.acts ≤ u.acts + 1) ∨
  (¬ (G.length < 512 * (x.n + 1) ∧ u.room < Sf.used u + (max G.length (512 * (x.n + 1)) - G.length)) ∧ ∃ u', putsE s u x = (0, u') ∧ Way s k t F m u' ∧ Sf.now (Sf.fileAt u' k) = putF G x ∧ u'.acts ≤ u.acts + 2 ∧ Sf.used u' + G.length = Sf.used u + (putF G x).length) ∨
  (∃ u', putsE s u x = (13, u') ∧ Lost k t F m u' ∧ u'.acts ≤ u.acts + 2) := by
 have hlen : Sf.len u k = G.length := by unfold Sf.len; rw [hG]
 have hsz := Sf.size_get h.on.get
 have hwp := putF_len (F := G) hp
 have hFG : F.length ≤ G.length := by have := (h.off hF).1; rw [hG] at this; exact this
 -- behind the fill
 have key : ∀ v, Way s k t F m v → Sf.now (Sf.fileAt v k) = fillF G (512 * x.n) → v.acts ≤ u.acts + 1 → Sf.used v + G.length = Sf.used u + (fillF G (512 * x.n)).length → fillE u s (512 * x.n) = (0, v) → v.room = u.room →
   (u.room < Sf.used u + (max G.length (512 * (x.n + 1)) - G.length) ∧ G.length < 512 * (x.n + 1) ∧ ∃ u', putsE s u x = (9, u') ∧ Way s k t F m u' ∧ u'.acts ≤ u.acts + 1) ∨
   (¬ (G.length < 512 * (x.n + 1) ∧ u.room < Sf.used u + (max G.length (512 * (x.n + 1)) - G.length)) ∧ ∃ u', putsE s u x = (0, u') ∧ Way s k t F m u' ∧ Sf.now (Sf.fileAt u' k) = putF G x ∧ u'.acts ≤ u.acts + 2 ∧ Sf.used u' + G.length = Sf.used u + (putF G x).length) ∨
   (∃ u', putsE s u x = (13, u') ∧ Lost k t F m u' ∧ u'.acts ≤ u.acts + 2) := by
  intro v hv hvf hva hvu hfe hvr
  have hvl : Sf.len v k = (fillF G (512 * x.n)).length := by unfold Sf.len; rw [hvf]
  have hfl := fillF_len G (512 * x.n)
  have hw := hv.on.write (512 * x.n) (by rw [hvl, hfl]; omega) (pageF x)
  have hpe : putsE s u x = Sf.write v s ((512 * x.n : Nat) : Int) (pageF x) := by unfold putsE; rw [hfe, if_neg (by simp)]; rfl
  rw [hpe, hw, hvl, hp, hfl, hvr]
  by_cases hc : max G.length (512 * x.n) < 512 * x.n + 512 ∧ u.room < Sf.used v + (512 * x.n + 512 - max G.length (512 * x.n))
  ·rw [if_pos hc]
   exact .inl ⟨by omega, by omega, v, rfl, hv, hva⟩
  ·rw [if_neg hc]
   rcases hv.add hF (free_page hx hp) (by rw [hvl, hfl]; simp only; omega) with ⟨y, q1, q2, q3, q4, q5⟩ | ⟨y, q1, q2, q3⟩
   ·have q6 : Sf.len y k = (putF G x).length := by unfold Sf.len; rw [q3, hvf]; rfl
    exact .inr (.inl ⟨by omega, y, q1, q2, by rw [q3, hvf]; rfl, by omega, by omega⟩)
   ·exact .inr (.inr ⟨y, q1, q3, by omega⟩)
 by_cases ha : 512 * x.n ≤ G.length
 ·have hfe : fillE u s (512 * x.n) = (0, u) := by unfold fillE; rw [hsz, hlen, if_neg (by simp), if_pos ha]
  have hff : fillF G (512 * x.n) = G := if_pos ha
  exact key u h (by rw [hff]; exact hG) (by omega) (by rw [hff]) hfe rfl
 ·have hff : fillF G (512 * x.n) = G ++ noughts (512 * x.n - G.length) := if_neg ha
  have hfe : fillE u s (512 * x.n) = Sf.append u s (noughts (512 * x.n - G.length)) := by unfold fillE; rw [hsz, hlen, if_neg (by simp), if_neg ha]
  rw [h.on.append, noughts_len, hlen] at hfe
  by_cases hc : 0 < 512 * x.n - G.length ∧ u.room < Sf.used u + (512 * x.n - G.length)
  ·rw [if_pos hc] at hfe
   have hpe : putsE s u x = (9, u) := by unfold putsE; rw [hfe, if_pos (by simp)]
   exact .inl ⟨by omega, by omega, u, hpe, h, by omega⟩
  ·rw [if_neg hc] at hfe
   rcases h.add hF (free_end hFG (noughts (512 * x.n - G.length))) (by rw [hlen]; exact Nat.le_refl _) with ⟨v, q1, q2, q3, q4, q5⟩ | ⟨v, q1, q2, q3⟩
   ·rw [q1] at hfe
    have q6 : Sf.now (Sf.fileAt v k) = fillF G (512 * x.n) := by
     rw [q3, hG, hff]
     unfold Sf.done
     simp only [Bool.false_eq_true, if_false]
     rw [List.take_of_length_le (Nat.le_refl _), List.drop_of_length_le (by omega), List.append_nil]
    have q7 : Sf.len v k = (fillF G (512 * x.n)).length := by unfold Sf.len; rw [q6]
    exact key _ q2 q6 (by omega) (by omega) hfe (by rw [q2.on.but.room, h.on.but.room])
   ·rw [q1] at hfe
    have hpe : putsE s u x = (13, v) := by unfold putsE; rw [hfe, if_pos (by simp)]
    exact .inr (.inr ⟨v, hpe, q3, by omega⟩)
end
theorem putsL_way {s : ByteArray} {k : Nat} {t : Sf.St} {F : List Nat} {m : List Pa.Page} (hF : Sf.now (Sf.fileAt t k) = F) : ∀ (l : List Pa.Page) (u : Sf.St) (G : List Nat), (∀ x ∈ l, (pageF x).length = 512) → (∀ x ∈ l, x ∈ m) → Way s k t F m u → Sf.now (Sf.fileAt u k) = G →
  (u.room < Sf.used u + ((putsF G l).length - G.length) ∧ G.length < (putsF G l).length ∧ ∃ u', putsL s u l = (9, u') ∧ Way s k t F m u' ∧ u'.acts ≤ u.acts + 2 * l.length) ∨
  (¬ (G.length < (putsF G l).length ∧ u.room < Sf.used u + ((putsF G l).length - G.length)) ∧ ∃ u', putsL s u l = (0, u') ∧ Way s k t F m u' ∧ Sf.now (Sf.fileAt u' k) = putsF G l ∧ u'.acts ≤ u.acts + 2 * l.length ∧ Sf.used u' + G.length = Sf.used u + (putsF G l).length) ∨
  (∃ u', putsL s u l = (13, u') ∧ Lost k t F m u' ∧ u'.acts ≤ u.acts + 2 * l.length) := by
 intro l
 induction l with
 | nil =>
  intro u G hp hm h hG
  exact .inr (.inl ⟨fun h => absurd h.1 (Nat.lt_irrefl _), u, rfl, h, hG, Nat.le_refl _, rfl⟩)
 | cons x l ih =>
  intro u G hp hm h hG
  have hpx := hp x List.mem_cons_self
  have hpl : ∀ x ∈ l, (pageF x).length = 512 := fun z hz => hp z (List.mem_cons_of_mem _ hz)
  have hml : ∀ x ∈ l, x ∈ m := fun z hz => hm z (List.mem_cons_of_mem _ hz)
  have hpf := putF_len (F := G) hpx
  have e : putsF G (x :: l) = putsF (putF G x) l := rfl
  have hge := (putsF_off (F := putF G x) (m := l) hpl (fun _ h => h)).1
  have hL : putsL s u (x :: l) = if (putsE s u x).1 ≠ 0 then putsE s u x else putsL s (putsE s u x).2 l := rfl
  rw [e, List.length_cons]
  rcases putsE_way h hF hG (hm x List.mem_cons_self) hpx with ⟨a1, a2, u1, a3, a4, a6⟩ | ⟨a1, u1, a3, a4, a5, a6, a7⟩ | ⟨u1, a3, a4, a6⟩
  ·exact .inl ⟨by omega, by omega, u1, by rw [hL, a3, if_pos (by simp)], a4, by omega⟩
  ·rw [a3, if_neg (by simp)] at hL
   have hroom : u1.room = u.room := by rw [a4.on.but.room, h.on.but.room]
   rcases ih u1 (putF G x) hpl hml a4 a5 with ⟨b1, b2, u2, b3, b4, b6⟩ | ⟨b1, u2, b3, b4, b5, b6, b7⟩ | ⟨u2, b3, b4, b6⟩
   ·exact .inl ⟨by omega, by omega, u2, by rw [hL]; exact b3, b4, by omega⟩
   ·exact .inr (.inl ⟨by omega, u2, by rw [hL]; exact b3, b4, b5, by omega, by omega⟩)
   ·exact .inr (.inr ⟨u2, by rw [hL]; exact b3, b4, by omega⟩)
  ·exact .inr (.inr ⟨u1, by rw [hL, a3, if_pos (by simp)], a4, by omega⟩)
theorem writeE_way {s : ByteArray} {k : Nat} {t : Sf.St} {F Pb : List Nat} {pl : List Pa.Page} {at_ : Nat} (h : Sf.OnA s k t t) (hF : Sf.now (Sf.fileAt t k) = F) (hp : ∀ x ∈ pl, (pageF x).length = 512) (hb : 1024 ≤ F.length) (hat : at_ < 2) (hPb : Pb.length = 512) :
  (t.room < Sf.used t + ((putsF F pl).length - F.length) ∧ F.length < (putsF F pl).length ∧ ∃ t', writeE s t pl at_ Pb = (9, t') ∧ Sf.OnA s k t t' ∧ Off F (Sf.now (Sf.fileAt t' k)) pl ∧ (Sf.now (Sf.fileAt t' k)).length = F.length ∧ t'.acts ≤ t.acts + 2 * pl.length + 1) ∨
  (¬ (F.length < (putsF F pl).length ∧ t.room < Sf.used t + ((putsF F pl).length - F.length)) ∧ ∃ t', writeE s t pl at_ Pb = (0, t') ∧ Sf.OnA s k t t' ∧ Sf.fileAt t' k = ⟨Sf.done (putsF F pl) ⟨false, 512 * at_, Pb⟩, []⟩ ∧ t'.acts ≤ t.acts + 2 * pl.length + 3) ∨
  (∃ t', writeE s t pl at_ Pb = (13, t') ∧ (Lost k t F pl t' ∨ Sf.Died k t t' ⟨putsF F pl, [⟨false, 512 * at_, Pb⟩]⟩) ∧ t'.acts ≤ t.acts + 2 * pl.length + 3) := by
 have hlen : Sf.len t k = F.length := by unfold Sf.len; rw [hF]
 have hw : writeE s t pl at_ Pb = closeE s F.length (bodyE s t pl at_ Pb) := by unfold writeE; rw [Sf.size_get h.get, hlen, if_neg (by simp)]
 rw [hw]
 have hdead : ∀ v, bodyE s t pl at_ Pb = (13, v) → closeE s F.length (bodyE s t pl at_ Pb) = (13, v) := fun v e => by unfold closeE; rw [e, if_pos (by simp)]
 rcases putsL_way (s := s) (m := pl) hF pl t F hp (fun _ h => h) ⟨h, [], by rw [List.append_nil], trivial⟩ hF with ⟨a1, a2, u, a3, a4, a6⟩ | ⟨a1, u, a3, a4, a5, a6, a7⟩ | ⟨u, a3, a4, a6⟩
 ·have hbd : bodyE s t pl at_ Pb = (9, u) := by unfold bodyE; rw [a3, if_pos (by simp)]
  have a5 := a4.off hF
  have hul : F.length ≤ Sf.len u k := a5.1
  have hc := a4.on.cut F.length hul
  have hcl : closeE s F.length (bodyE s t pl at_ Pb) = ((if (Sf.cut u s (F.length : Nat)).1 ≠ 0 then (Sf.cut u s (F.length : Nat)).1 else 9), (Sf.cut u s (F.length : Nat)).2) := by
   unfold closeE; rw [hbd, if_neg (by simp)]
  rcases a4.add hF (a := ⟨true, F.length, []⟩) (.inl ⟨rfl, Nat.le_refl _⟩) hul with ⟨v, q1, q2, q3, q4, q5⟩ | ⟨v, q1, q2, q3⟩
  ·have q6 : Sf.now (Sf.fileAt v k) = (Sf.now (Sf.fileAt u k)).take F.length := by rw [q3]; unfold Sf.done; simp
   refine .inl ⟨a1, a2, v, ?_, q2.on, by rw [q6]; exact a5.cut, by rw [q6, List.length_take]; have := a5.1; omega, by omega⟩
   rw [hcl, hc, q1]
   simp
  ·refine .inr (.inr ⟨v, ?_, .inl q3, by omega⟩)
   rw [hcl, hc, q1]
   simp
 ·have hbig := (putsF_off (F := F) (m := pl) hp (fun _ h => h)).1
  rcases a4.on.sync with ⟨v, b1, b2⟩ | ⟨v, b1, b2, b3⟩
  ·have b3 : Sf.fileAt v k = ⟨putsF F pl, []⟩ := by rw [b2.file, a5]
   have hl1 : Sf.len v k = (putsF F pl).length := by unfold Sf.len; rw [b3]; rfl
   have b4 := b2.acts
   have hwr := b2.on.write (512 * at_) (by rw [hl1]; omega) Pb
   rw [if_neg (by rw [hl1, hPb]; omega)] at hwr
   rcases b2.on.add ⟨false, 512 * at_, Pb⟩ with ⟨y, c1, c2⟩ | ⟨y, c1, c2, c3⟩
   ·have c3 : Sf.fileAt y k = ⟨putsF F pl, [⟨false, 512 * at_, Pb⟩]⟩ := by rw [c2.file, b3]; rfl
    have c4 := c2.acts
    have hbd : bodyE s t pl at_ Pb = Sf.sync y s := by
     unfold bodyE
     rw [a3, if_neg (by simp), b1, if_neg (by simp), hwr, c1, if_neg (by simp)]
    rcases c2.on.sync with ⟨z, d1, d2⟩ | ⟨z, d1, d2, d3⟩
    ·have d3 := d2.acts
     refine .inr (.inl ⟨a1, z, by rw [hbd, d1]; unfold closeE; rw [if_pos (by simp)], d2.on, ?_, by omega⟩)
     rw [d2.file, c3]
     rfl
    ·rw [d1] at hbd
     exact .inr (.inr ⟨z, hdead _ hbd, .inr (by rw [c3] at d3; exact d3), by omega⟩)
   ·have hbd : bodyE s t pl at_ Pb = (13, y) := by
     unfold bodyE
     rw [a3, if_neg (by simp), b1, if_neg (by simp), hwr, c1, if_pos (by simp)]
    exact .inr (.inr ⟨y, hdead _ hbd, .inr (by rw [b3] at c3; exact c3), by omega⟩)
  ·have hbd : bodyE s t pl at_ Pb = (13, v) := by
    unfold bodyE
    rw [a3, if_neg (by simp), b1, if_pos (by simp)]
   obtain ⟨l, f1, f2⟩ := a4.free
   rw [f1] at b3
   exact .inr (.inr ⟨v, hdead _ hbd, .inl ⟨l, b3, f2⟩, by omega⟩)
 ·have hbd : bodyE s t pl at_ Pb = (13, u) := by unfold bodyE; rw [a3, if_pos (by simp)]
  exact .inr (.inr ⟨u, hdead _ hbd, .inl a4, by omega⟩)
end Pp
end Go.Proofs.YtiafeniflkikeaaGreat
namespace Go.Proofs.YtiafeniflkikeaaGreat
open Go.RowKit
set_option linter.unusedVariables false
namespace Pp
section
variable {s : S} {F G : List Nat}
theorem pend_mem {x : Pa.Page} (h : x ∈ pend s.l) : x ∈ s.l ∧ x.state = 2 := by
 have := List.mem_filter.1 h
 exact ⟨this.1, by simpa using this.2⟩
theorem Tells.off (h : Sound s F) (ho : Off F G (pend s.l)) (ht : Tells F s.root (held s.l F)) : Tells G s.root (held s.l F) := by
 obtain ⟨h1, h2, h3⟩ := ht
 have hg := ho.1
 have hpg : ∀ n, n < 2 → pageOf G n = pageOf F n := fun n hn => ho.page (by omega) (fun x hx => by have := (h.from2 x (pend_mem hx).1).1; omega)
 refine ⟨by omega, ?_, fun p hp => ?_⟩
 ·rw [told_pages, hpg 0 (by omega), hpg 1 (by omega), ← told_pages, h2]
 ·have h4 := h3 p hp
  refine ⟨by omega, ?_⟩
  obtain ⟨x, hx, rfl⟩ := List.mem_map.1 hp
  have hx := List.mem_filter.1 hx
  have hs : x.state ≠ 2 := by simpa using hx.2
  refine ho.page h4.1 (fun z hz e => ?_)
  obtain rfl := rising_inj h.rise (pend_mem hz).1 hx.1 e
  exact hs (pend_mem hz).2
theorem Tells.new {R : Rt.Root} (h : Sound s F) (hN : New s F G R) (ht : Tells F s.root (held s.l F)) : Tells G R (next s.l F) := by
 have hl := hN.len
 have hb := sizeL_base s.l F.length
 have h1 := ht.1
 refine ⟨by omega, hN.root, fun p hp => ?_⟩
 obtain ⟨x, hx, rfl⟩ := List.mem_map.1 hp
 have hx := (List.mem_filter.1 hx).1
 by_cases hs : x.state = 2
 ·have := sizeL_ge (s := F.length) hx hs
  simp only [if_pos hs]
  exact ⟨by omega, hN.pend x hx hs⟩
 ·simp only [if_neg hs]
  have h4 := ht.2.2 (x.n, pageOf F x.n) (List.mem_map.2 ⟨x, List.mem_filter.2 ⟨hx, by simpa using hs⟩, rfl⟩)
  have h5 := (h.from2 x hx).2.1
  simp only at h4
  exact ⟨by omega, hN.used x hx hs h5 h4.1⟩
theorem vers_root {Pb : List Nat} {at_ : Nat} (hG : 1024 ≤ G.length) (hat : at_ < 2) (hPb : Pb.length = 512) {x : List Nat} (hx : Vers ⟨G, [⟨false, 512 * at_, Pb⟩]⟩ x) : x = G ∨ x = Sf.done G ⟨false, 512 * at_, Pb⟩ := by
 obtain ⟨l, rfl⟩ := hx
 rcases Sf.kept1_cases ⟨G, [⟨false, 512 * at_, Pb⟩]⟩ l with ⟨j, hj, e⟩ | ⟨j, a, n, hj, hc, hn, e⟩
 ·rw [e]
  have hj : j ≤ 1 := hj
  rcases (show j = 0 ∨ j = 1 by omega) with rfl | rfl
  ·exact .inl rfl
  ·exact .inr rfl
 ·rw [e]
  have h0 : j = 0 := by
   have := (List.getElem?_eq_some_iff.1 hj).1
   simp at this
   exact this
  subst h0
  have ha : a = ⟨false, 512 * at_, Pb⟩ := by simpa using hj.symm
  subst ha
  rw [Sf.bytes_zero]
  simp only at hn
  have hn512 : n ≤ 512 := by omega
  unfold Sf.torn
  simp only
  by_cases h512 : n = 512
  ·subst h512
   right
   have he : (if 512 * at_ + 512 < G.length then (512 * at_ + 512) / 512 * 512 else 512 * at_ + 512) = 512 * at_ + 512 := by split <;> omega
   rw [he, if_neg (by omega)]
   congr 2
   rw [List.take_of_length_le (by omega)]
  ·left
   have he : (if 512 * at_ + n < G.length then (512 * at_ + n) / 512 * 512 else 512 * at_ + n) = 512 * at_ := by split <;> omega
   rw [he, if_pos (Nat.le_refl _)]
theorem now_vers {f : Sf.File} (hrow : f.row.length < 18446744073709551616) : Vers f (Sf.now f) := by
 refine ⟨[(f.row.length : Int)], ?_⟩
 have h1 : Sf.took [(f.row.length : Int)] (f.row.length + 1) = f.row.length := by
  show Sf.left _ _ = _
  unfold Sf.left
  rw [Int.emod_eq_of_lt (by omega) (by omega), Int.toNat_natCast, Nat.mod_eq_of_lt (by omega)]
 unfold Sf.kept1
 rw [h1, List.getElem?_eq_none (Nat.le_refl _)]
 exact (Sf.bytes_all f).symm
end
theorem wcom_any {s : S} {F : List Nat} {t : Sf.St} {k : Nat} {r : Rt.Root} (hon : Sf.OnA s.name k t t) (hrow : (Sf.fileAt t k).row.length < 18446744073709551616) (hroom : Sf.used t ≤ t.room) (hF : Sf.now (Sf.fileAt t k) = F) (hnd : r.page = 0 ∨ need s.l r.page = true) (h : Sound s F) (hb : ∀ x ∈ pend s.l, x.body.length ≤ 496) (Pb : List Nat) (hput : Rt.putE (rootOf s r) = (Pb, 0))
  (x : Nat) (t' : Sf.St) (hwe : writeE s.name t (pend s.l) ((rootOf s r).seq % 2) Pb = (x, t')) : WCom s F t k r x t' := by
 have hm := (Rt.page_len hput).2
 have hR := rootOf_seq h.root r
 have hp : ∀ x ∈ pend s.l, (pageF x).length = 512 := fun x hx => pageF_len (hb x hx)
 have hfew : (pend s.l).length ≤ 65536 := by
  have h1 := rising_few h.rise (a := 2) (c := 65536) (fun x hx => by have := h.from2 x hx; omega)
  have h2 : (pend s.l).length ≤ s.l.length := List.length_filter_le _ _
  omega
 have hlen : (putsF F (pend s.l)).length = Pa.sizeL F.length s.l := by rw [putsF_len hp, sizeL_pend]
 have hge := sizeL_base s.l F.length
 have hc := commit_of (F := F) hnd hm ((t.room : Int) - Sf.used t)
 have hN := new_of h hR hput hb
 rcases writeE_way (at_ := (rootOf s r).seq % 2) hon hF hp h.big (by omega) (Rt.page_len hput).1 with ⟨a1, a2, u, a3, a4, a5, a6, a7⟩ | ⟨a1, u, a3, a4, a5, a6⟩ | ⟨u, a3, a4, a5⟩
 ·rw [hwe] at a3
  obtain ⟨rfl, rfl⟩ := Prod.mk.inj a3
  rw [hlen] at a1 a2
  rw [if_pos (by omega)] at hc
  have hk := keeps_of h a5 a6
  exact .inr ⟨by omega, _, .full _ t' hc a4.but rfl hk (Sf.get_find a4.get).1 a4.fz (by omega), fun _ => hk⟩
 ·rw [hwe] at a3
  obtain ⟨rfl, rfl⟩ := Prod.mk.inj a3
  rw [hlen] at a1
  rw [if_neg (by omega)] at hc
  exact .inl ⟨rfl, (Sf.get_find a4.get).1, _, hN, .done _ t' (s.turns + 65536) hc hN a4.but a5 (Sf.get_find a4.get).1 a4.fz (by omega) (by omega)⟩
 ·rw [hwe] at a3
  obtain ⟨rfl, rfl⟩ := Prod.mk.inj a3
  have hne : (Pa.commit (asM s F) r ((t.room : Int) - Sf.used t)).2 ≠ 2 := by rw [hc]; split <;> omega
  have hdied : t.fuse ≠ 0 ∧ But k t t' ∧ t'.dead = true := by
   rcases a4 with ⟨l, a4, _⟩ | a4
   ·exact ⟨a4.fuse, a4.but, a4.dead⟩
   ·exact ⟨a4.fuse, a4.but, a4.dead⟩
  refine .inr ⟨by omega, F, .dead 13 s F t' hne hdied.1 hdied.2.1 hdied.2.2 (by omega) (by omega) (fun hold _ y hy => ?_), fun hd => by rw [hdied.2.2] at hd; cases hd⟩
  have hFt : Tells F s.root (held s.l F) := by
   have := hold _ (now_vers hrow)
   rw [hF] at this
   exact this
  rcases a4 with ⟨l, a4, a6⟩ | a4
  ·rw [a4.file] at hy
   rcases vers_free hF hrow a6 hy with h1 | h1
   ·exact .inl (hold _ h1)
   ·exact .inl (hFt.off h h1)
  ·rw [a4.file] at hy
   have hoff := putsF_off (F := F) (m := pend s.l) hp (fun _ h => h)
   have hbig := h.big
   have hlo := hoff.1
   rcases vers_root (by omega) (by omega) (Rt.page_len hput).1 hy with rfl | rfl
   ·exact .inl (hFt.off h hoff)
   ·exact .inr (Tells.new h hN hFt)
end Pp
end Go.Proofs.YtiafeniflkikeaaGreat
namespace Go.Proofs.YtiafeniflkikeaaGreat
open Go.RowKit
set_option linter.unusedVariables false
section
variable {w w' : World} {f fd : Fp} {s : Pp.S} {F : List Nat} {b bf : Nat} {t : Sf.St}
theorem Sf.len_used {t : Sf.St} {k : Nat} {s : ByteArray} (hg : Sf.get t s = (k, 0)) : Sf.len t k ≤ Sf.used t := by
 obtain ⟨h1, h2⟩ := Sf.get_find hg
 unfold Sf.used
 rw [if_neg (by rw [h1]; simp)]
 have := Sf.lens_without (t := t) (Sf.find_mem h2)
 omega
theorem ppcommit_any (r : Rt.Root) (k : Nat) (h : PPager w f s F b bf) (hD : PDisk w fd t bf) (hap : f.Apart fd) (hfit : Rt.Fit r) (ha : t.acts ≤ 1099511300000) (htn : s.turns ≤ 1099511627776) (hroom : Sf.used t ≤ t.room) (hg : Sf.get t s.name = (k, 0)) (hF : Sf.now (Sf.fileAt t k) = F) :
  Calls Tryz.prog 25 #[.pointer (some ⟨b, 0, none⟩), .agg (rtC r)] w (IsCommit s F t k r f fd b bf w) := by
 obtain ⟨who, bq, bs, bn, vr, ff, rn, hH⟩ := id hD
 have hgood := hH.good
 have hf := Sf.get_find hg
 have hk : k < t.files.length := (hgood.lens t.seen (.inr (.inl rfl))).2 _ (Sf.find_mem hf.2)
 have hlen := Sf.len_used hg
 have hsz : F.length < 9223372036854775808 := by
  have h1 := hgood.room
  have h2 : Sf.len t k = F.length := by unfold Sf.len; rw [hF]
  omega
 have hrow : (Sf.fileAt t k).row.length < 18446744073709551616 := by
  have h1 : Sf.fileAt t k ∈ t.files := by
   unfold Sf.fileAt
   rw [List.getD_eq_getElem?_getD, List.getElem?_eq_getElem hk]
   exact List.getElem_mem _
  have := hgood.frow _ h1
  omega
 exact ppcommit_of h hD hap r hfit k ha htn hg hF hsz (fun hnd hs hb Pb hput x t' hwe => Pp.wcom_any (Sf.OnA.refl hg hk hgood.nums) hrow hroom hF hnd hs hb Pb hput x t' hwe)
end
end Go.Proofs.YtiafeniflkikeaaGreat
namespace Go.Proofs.YtiafeniflkikeaaGreat
open Go.RowKit
set_option linter.unusedVariables false
section
variable {w w' : World} {fd : Fp} {bf : Nat} {t : Sf.St}
def IsMake (t : Sf.St) (name : ByteArray) (fd : Fp) (bf : Nat) (w : World) (e : Ending) (w' : World) : Prop :=
 ∃ (x : Nat) (t' : Sf.St) (fd' : Fp), e = .returned (.int .i64 (x : Nat)) ∧ PDisk w' fd' t' bf ∧ fd.Next fd' w.heap.size ∧ Turned fd.M w w' ∧ t'.acts ≤ t.acts + 600 ∧
  ((t.room < Sf.used t + 1024 ∧ x = 9) ∨ (¬ t.room < Sf.used t + 1024 ∧ x = 0 ∧ t' = { t with files := t.files ++ [⟨Pp.made, []⟩], seen := Sf.with_ t.seen name t.files.length, row := t.row ++ [Sf.with_ t.seen name t.files.length], acts := t'.acts }))
end
namespace Sf
variable {t : St}
theorem fileAt_new (fs : List File) (n : Nat) : (fs ++ [noFile]).getD n noFile = fs.getD n noFile := by
 simp only [List.getD_eq_getElem?_getD]
 by_cases h : n < fs.length
 ·rw [List.getElem?_append_left h]
 ·rw [List.getElem?_append_right (by omega)]
  rw [List.getElem?_eq_none (l := fs) (by omega)]
  rcases h1 : n - fs.length with _ | k <;> simp
structure Mk (t : St) (s : ByteArray) (b : List Nat) (a : St) : Prop where
 few : a.acts = t.acts + 1
 append : append a s b = if t.room < used t + b.length then (9, a) else (0, { a with files := t.files ++ [⟨[], [⟨false, 0, b⟩]⟩], acts := t.acts + 2 })
 sync : sync { a with files := t.files ++ [⟨[], [⟨false, 0, b⟩]⟩], acts := t.acts + 2 } s = (0, { a with files := t.files ++ [⟨b, []⟩], acts := t.acts + 3 })
theorem mk_of (s : ByteArray) (b : List Nat) (hd : t.dead = false) (hf : t.fuse = 0) (hs : find t.seen s = none) (hb : 0 < b.length) :
  Mk t s b { t with files := t.files ++ [noFile], seen := with_ t.seen s t.files.length, row := t.row ++ [with_ t.seen s t.files.length], acts := t.acts + 1 } := by
 obtain ⟨a, ha⟩ : ∃ a, ({ t with files := t.files ++ [noFile], seen := with_ t.seen s t.files.length, row := t.row ++ [with_ t.seen s t.files.length], acts := t.acts + 1 } : St) = a := ⟨_, rfl⟩
 have hget : get a s = (t.files.length, 0) := by
  unfold get; rw [← ha]; simp only
  rw [if_neg (by rw [hd]; simp), find_with_self _ _ _ hs]
 have hlen : ∀ n, len a n = len t n := fun n => by unfold len fileAt; rw [← ha]; simp only; rw [fileAt_new]
 have hl0 : len a t.files.length = 0 := by rw [hlen]; unfold len fileAt; simp [noFile, now]
 have hu : used a = used t := by
  unfold used
  rw [← ha, if_neg (by rw [hd]; simp), if_neg (by rw [hd]; simp)]
  simp only
  rw [ha]
  unfold lens
  rw [show (fun e : ByteArray × Nat => len a e.2) = (fun e => len t e.2) from funext fun e => hlen e.2]
  unfold with_
  have h1 := congrArg List.sum (congrArg (List.map fun e : ByteArray × Nat => len t e.2) (List.take_append_drop (ahead t.seen s) t.seen))
  rw [List.map_append, List.sum_append] at h1
  rw [List.map_append, List.map_cons, List.sum_append, List.sum_cons, ← hlen t.files.length, hl0, ← h1]
  omega
 rw [ha]
 have hroom : a.room = t.room := by rw [← ha]
 have hfuse : a.fuse = 0 := by rw [← ha]; exact hf
 have hdd : a.dead = false := by rw [← ha]; exact hd
 have hacts : a.acts = t.acts + 1 := by rw [← ha]
 have hfiles : a.files = t.files ++ [noFile] := by rw [← ha]
 have hset : ∀ x, (t.files ++ [noFile]).set t.files.length x = t.files ++ [x] := fun x => by
  rw [List.set_append_right _ _ (Nat.le_refl _), Nat.sub_self]; rfl
 have hat : fileAt a t.files.length = noFile := by unfold fileAt; rw [hfiles, fileAt_new]; simp
 have hset2 : ∀ y x, (t.files ++ [y]).set t.files.length x = t.files ++ [x] := fun y x => by
  rw [List.set_append_right _ _ (Nat.le_refl _), Nat.sub_self]; rfl
 refine ⟨hacts, ?_, ?_⟩
 ·unfold Sf.append
  rw [hget, if_neg (by simp), hroom, hu]
  by_cases h : t.room < used t + b.length
  ·rw [if_pos ⟨hb, h⟩, if_pos h]
  ·rw [if_neg (fun h2 => h h2.2), if_neg h]
   unfold add blown
   simp only [hfuse, if_true, hl0, hat, hacts]
   rw [hfiles, hset, hroom]
   rfl
 ·obtain ⟨c, hc⟩ : ∃ c, ({ a with files := t.files ++ [⟨[], [⟨false, 0, b⟩]⟩], acts := t.acts + 2 } : St) = c := ⟨_, rfl⟩
  rw [hc]
  have hgc : get c s = (t.files.length, 0) := by
   rw [← hget]; unfold get; rw [← hc]
  have hfc : c.fuse = 0 := by rw [← hc]; exact hfuse
  have hbl : blown c = (0, { c with acts := c.acts + 1 }) := by unfold blown; rw [if_pos hfc]
  have hfl : c.files = t.files ++ [⟨[], [⟨false, 0, b⟩]⟩] := by rw [← hc]
  have hfat : fileAt c t.files.length = ⟨[], [⟨false, 0, b⟩]⟩ := by
   unfold fileAt; rw [hfl, List.getD_eq_getElem?_getD, List.getElem?_append_right (Nat.le_refl _), Nat.sub_self]; rfl
  unfold Sf.sync
  rw [hgc, if_neg (by simp), hbl, if_neg (by simp), hfat, hfl, hset2]
  simp only
  have hn : now (⟨[], [⟨false, 0, b⟩]⟩ : File) = b := by simp [now, done]
  rw [hn, ← hc]
end Sf
section
variable {w w' : World} {fd : Fp} {bf : Nat} {t : Sf.St}
set_option maxHeartbeats 2000000 in
set_option maxRecDepth 100000 in
theorem ppmake_any (name : ByteArray) (hD : PDisk w fd t bf) (hn : name.size ≤ maxLen) (hd : t.dead = false) (hf : t.fuse = 0) (hs : Sf.find t.seen name = none) (hi : Sf.isName name = true) (h64 : t.seen.length < 64) (ha : t.acts ≤ 1099511627000) :
 Calls Tryz.prog 9 #[.pointer (some ⟨bf, 0, none⟩), .string name] w (IsMake t name fd bf w) := by
 have CC := Lib.hid (pcreate_any hD (by unfold Sf.Few; omega) name hn)
 have hml : Pp.made.length = 1024 := by
  unfold Pp.made
  rw [List.length_append, List.length_replicate]
  obtain ⟨P, hP1, hP2, hP3⟩ := Rt.put_page Pp.may_first
  have hPe : P = Pg.page 1 1 (Rt.bys (Rt.nums Pa.new.root)) := (Pg.getE_put hP1).2.1
  rw [← hPe, (Rt.page_len hP2).1]
 have hmk := Sf.mk_of (t := t) name Pp.made hd hf hs (by rw [hml]; omega)
 have h1 : Sf.create t name = (0, { t with files := t.files ++ [Sf.noFile], seen := Sf.with_ t.seen name t.files.length, row := t.row ++ [Sf.with_ t.seen name t.files.length], acts := t.acts + 1 }) := by
  unfold Sf.create
  rw [if_neg (by rw [hd]; simp), if_neg (by rw [hi]; simp), if_neg (by rw [hs]; simp), if_neg (by omega)]
  unfold Sf.turn Sf.blown
  rw [if_pos hf]
 obtain ⟨t1, ht1⟩ : ∃ t1, ({ t with files := t.files ++ [Sf.noFile], seen := Sf.with_ t.seen name t.files.length, row := t.row ++ [Sf.with_ t.seen name t.files.length], acts := t.acts + 1 } : Sf.St) = t1 := ⟨_, rfl⟩
 rw [ht1] at hmk h1
 rw [h1] at CC
 have HT1 := Lib.hid ht1
 obtain ⟨hm1, hm2, hm3⟩ := hmk
 have HM1 := Lib.hid hm1
 obtain ⟨t2, ht2⟩ : ∃ t2, ({ t1 with files := t.files ++ [⟨[], [⟨false, 0, Pp.made⟩]⟩], acts := t.acts + 2 } : Sf.St) = t2 := ⟨_, rfl⟩
 rw [ht2, hml] at hm2
 rw [ht2] at hm3
 have HT2 := Lib.hid ht2
 have HM2 := Lib.hid hm2
 have HM3 := Lib.hid hm3
 have HML := Lib.hid hml
 have HA := Lib.hid ha
 clear hD h1 ht1 hs hi h64 hd hf hm1 hm2 hm3 ht2 hml
 go_enter Tryz.func9, Tryz.ntmps9
 go_wp2_with fail
 refine CC.out.mono ?_
 rintro e w1 ⟨rfl, f1, hD1, hN1, hT1⟩
 have HD1 := Lib.hid hD1
 have HN1 := Lib.hid hN1
 have HTT1 := Lib.hid hT1
 have CF := Lib.hid (pyfirst_any w1)
 clear CC hD1 hN1 hT1
 simp only
 go_wp2_with fail
 refine CF.out.mono ?_
 rintro e w2 ⟨A, c, rfl, ho, b2⟩
 have HO := Lib.hid ho
 have HD2 := Lib.hid (pdisk_law.below HD1.out b2)
 have HLT1 := Lib.hid (pdisk_law.lt HD1.out)
 have hs1 := HTT1.out.size
 have hs2 := b2.size
 have HTT2 : Hid (Turned fd.M w w2) := HTT1.out.trans (Turned.of_below b2) (fun k hk hg => by omega)
 have HS2 : Hid (w.heap.size ≤ w2.heap.size) := by unfold Hid; omega
 have CA := Lib.hid (pappend_any HD2.out (by unfold Sf.Few; have := HM1.out; have := HA.out; omega) name hn _ w2.heap.size Pp.made ho.form_ (Nat.le_refl _) (fun _ k hk hm => by have := (OwnL.lt_ ho k hk).1; have := HLT1.out k (.inl hm); omega))
 rw [HM2.out] at CA
 clear CF ho b2 hs1 hs2
 by_cases hr : t.room < Sf.used t + 1024
 ·rw [if_pos hr] at CA
  have HR := Lib.hid hr
  clear hr
  go_wp2_with fail
  refine CA.out.mono ?_
  rintro e w3 ⟨rfl, f3, hD3, hN3, hT3⟩
  have HD3 := Lib.hid hD3
  have HN3 := Lib.hid hN3
  have HT3 := Lib.hid hT3
  clear CA hD3 hN3 hT3
  simp only
  go_wp2
  go_ret
  exact ⟨9, t1, f3, rfl, HD3.out, HN1.out.trans HN3.out HS2.out, HTT2.out.trans HT3.out (fun k hk hg => (HN1.out.m k hg).elim id (fun h => by omega)), by have := HM1.out; omega, .inl ⟨HR.out, rfl⟩⟩
 ·rw [if_neg hr] at CA
  have HR := Lib.hid hr
  clear hr
  go_wp2_with fail
  refine CA.out.mono ?_
  rintro e w3 ⟨rfl, f3, hD3, hN3, hT3⟩
  have HD3 := Lib.hid hD3
  have HN3 := Lib.hid hN3
  have HT3 : Hid (Turned fd.M w w3) := HTT2.out.trans hT3 (fun k hk hg => (HN1.out.m k hg).elim id (fun h => by omega))
  have HS3 : Hid (w.heap.size ≤ w3.heap.size) := by unfold Hid; have := hT3.size; have := HS2.out; omega
  have CY := Lib.hid (psync_any hD3 (by unfold Sf.Few; have := HA.out; rw [← HT2.out]; simp only; omega) name hn)
  rw [HM3.out] at CY
  clear CA hD3 hN3 hT3
  simp only
  go_wp2_with fail
  refine CY.out.mono ?_
  rintro e w4 ⟨rfl, f4, hD4, hN4, hT4⟩
  have HD4 := Lib.hid hD4
  have HN4 : Hid (fd.Next f4 w.heap.size) := (HN1.out.trans HN3.out HS2.out).trans hN4 HS3.out
  have HT4 : Hid (Turned fd.M w w4) := HT3.out.trans hT4 (fun k hk hg => ((HN1.out.trans HN3.out HS2.out).m k hg).elim id (fun h => by omega))
  clear CY hD4 hN4 hT4
  simp only
  go_wp2
  go_ret
  exact ⟨0, _, f4, rfl, HD4.out, HN4.out, HT4.out, by simp only; omega, .inr ⟨HR.out, rfl, by rw [← HT1.out]⟩⟩
end
end Go.Proofs.YtiafeniflkikeaaGreat
