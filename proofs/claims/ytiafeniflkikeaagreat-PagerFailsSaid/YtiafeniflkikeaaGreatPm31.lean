/- Parts of the proof. -/
import Derived.Test.YtiafeniflkikeaaGreatPm13
import Derived.Test.YtiafeniflkikeaaGreatPm30
import Derived.Test.YtiafeniflkikeaaGreatPm12
import Derived.Test.YtiafeniflkikeaaGreatPm17
import Derived.Test.YtiafeniflkikeaaGreatPm14
import Derived.Test.YtiafeniflkikeaaGreatPm29
import Derived.Test.YtiafeniflkikeaaGreatPm11
import Derived.Test.YtiafeniflkikeaaGreatPm03
namespace Go.Proofs.YtiafeniflkikeaaGreat
open Go.RowKit
set_option linter.unusedVariables false
namespace Pp
def bodyE (name : ByteArray) (t : Sf.St) (pl : List Pa.Page) (at_ : Nat) (B : List Nat) : Nat × Sf.St :=
 if (putsL name t pl).1 ≠ 0 then putsL name t pl
 else if (Sf.sync (putsL name t pl).2 name).1 ≠ 0 then Sf.sync (putsL name t pl).2 name
 else if (Sf.write (Sf.sync (putsL name t pl).2 name).2 name ((512 * at_ : Nat) : Int) B).1 ≠ 0 then Sf.write (Sf.sync (putsL name t pl).2 name).2 name ((512 * at_ : Nat) : Int) B
 else Sf.sync (Sf.write (Sf.sync (putsL name t pl).2 name).2 name ((512 * at_ : Nat) : Int) B).2 name
def closeE (name : ByteArray) (sz : Nat) (r : Nat × Sf.St) : Nat × Sf.St :=
 if r.1 ≠ 9 then r else ((if (Sf.cut r.2 name (sz : Nat)).1 ≠ 0 then (Sf.cut r.2 name (sz : Nat)).1 else 9), (Sf.cut r.2 name (sz : Nat)).2)
def writeE (name : ByteArray) (t : Sf.St) (pl : List Pa.Page) (at_ : Nat) (B : List Nat) : Nat × Sf.St :=
 if (Sf.size t name).2 ≠ 0 then ((Sf.size t name).2, t) else closeE name (Sf.size t name).1 (bodyE name t pl at_ B)
theorem putsL_acts (s : ByteArray) : ∀ (l : List Pa.Page) (t : Sf.St), (putsL s t l).2.acts ≤ t.acts + 2 * l.length := by
 intro l
 induction l with
 | nil => intro t; exact Nat.le_refl _
 | cons x l ih =>
  intro t
  unfold putsL
  have h1 := putsE_acts t s x
  have h2 := ih (putsE s t x).2
  rw [List.length_cons]
  split <;> omega
theorem sync_acts (t : Sf.St) (s : ByteArray) : (Sf.sync t s).2.acts ≤ t.acts + 1 := by
  have h := blown_acts t
  unfold Sf.sync
  split; · exact Nat.le_succ _
  split; · exact Nat.le_of_eq h
  show (Sf.blown t).2.acts ≤ _
  omega
end Pp
theorem Rw.put {w : World} {g : Nat} {t : TypeId} {x : Value} (h : Rw w g t #[x]) (y : Value) : Rw (w.setCell ⟨g, 0, none⟩ y) g t #[y] := by
 unfold Rw
 rw [heap_setCell_same _ g 0 _ _ _ h]
 rfl
theorem Rw.putOther {w : World} {g k i : Nat} {t : TypeId} {c : Array Value} (h : Rw w g t c) (hk : g ≠ k) (y : Value) : Rw (w.setCell ⟨k, i, none⟩ y) g t c := (heap_setCell_other w ⟨k, i, none⟩ g y hk).trans h
theorem Rw.loose {w : World} {g i : Nat} {t : TypeId} {c : Array Value} (h : Rw w g t c) : w.frozen? ⟨g, i, none⟩ = false := frozen_of_row w g i _ _ h
def wrD (z y q : Nat) : Deferred := { target := .fn (.func 92) #[.pointer (some ⟨z, 0, none⟩), .pointer (some ⟨y, 0, none⟩), .pointer (some ⟨q, 0, none⟩)], args := #[] }
theorem results_er {fn : Func} {p : Tmp} (h : fn.results = #[.cell p 24]) (tmps : Array Value) (w : World) (g : Nat) (u : Value) (t : TypeId)
  (hp : tmps.getD p undef = .pointer (some ⟨g, 0, none⟩)) (hg : w.heap[g]? = some (.cells #[u] t (0, 0))) :
  (results fn tmps).run Tryz.prog w = .ok u w := by
 have hp' : tmps[p]?.getD undef = .pointer (some ⟨g, 0, none⟩) := by simpa using hp
 have c1 : w.cell? ⟨g, 0, none⟩ = some u := by rw [cell_of_row _ g 0 _ _ _ hg]; rfl
 simp [results, h, hp', asAddr, go_sem, c1]
structure Bo (w : World) (fd : Fp) (b bf sz q B : Nat) (f : Fp) (tk : Sf.St) (x : Nat) (w' : World) : Prop where
 e : Rw w' (w.heap.size + 1) 24 #[.int .i64 (x : Nat)]
 p : Rw w' w.heap.size 27 #[.pointer (some ⟨b, 0, none⟩)]
 s : Rw w' q 3 #[.int .i64 (sz : Nat)]
 disk : PDisk w' f tk bf
 next : fd.Next f B
 turned : Turned fd.M w w'
 q2 : w.heap.size + 2 ≤ q ∧ q < B
 big : B ≤ w'.heap.size
 lt : fd.Lt w.heap.size
section
variable {w w' w'' : World} {fd f f' : Fp} {b bf sz q B x : Nat} {tk tk' : Sf.St}
theorem Bo.off (h : Bo w fd b bf sz q B f tk x w') {k : Nat} (h1 : w.heap.size ≤ k) (h2 : k < B) : ¬ f.M k ∧ ¬ f.R k :=
 ⟨fun hk => (h.next.m k hk).elim (fun h3 => by have := h.lt k (.inl h3); omega) (fun h3 => by omega), fun hk => (h.next.r k hk).elim (fun h3 => by have := h.lt k (.inr h3); omega) (fun h3 => by omega)⟩
theorem Bo.deed (h : Bo w fd b bf sz q B f tk x w') (hD : PDisk w'' f' tk' bf) (hN : f.Next f' w'.heap.size) (hT : Turned f.M w' w'') : Bo w fd b bf sz q B f' tk' x w'' := by
 have hq := h.q2
 have hb := h.big
 exact ⟨(hT.block _ h.e.lt (h.off (by omega) (by omega)).1).trans h.e, (hT.block _ h.p.lt (h.off (by omega) (by omega)).1).trans h.p, (hT.block _ h.s.lt (h.off (by omega) (by omega)).1).trans h.s, hD, h.next.trans hN hb,
  h.turned.trans hT (fun k hk hg => (h.next.m k hg).elim id (fun h => by omega)), hq, Nat.le_trans hb hT.size, h.lt⟩
theorem Bo.below (h : Bo w fd b bf sz q B f tk x w') (hb : Below w'.heap.size w' w'') : Bo w fd b bf sz q B f tk x w'' :=
 h.deed (pdisk_law.below h.disk hb) (Fp.Next.refl _ _) ((Turned.of_below hb).mono (fun q hq h => absurd hq (by omega)))
theorem Bo.put (h : Bo w fd b bf sz q B f tk x w') (y : Nat) : Bo w fd b bf sz q B f tk y (w'.setCell ⟨w.heap.size + 1, 0, none⟩ (.int .i64 (y : Nat))) := by
 have hq := h.q2
 have hs := h.turned.size
 have hT : Turned (fun k => k = w.heap.size + 1) w' (w'.setCell ⟨w.heap.size + 1, 0, none⟩ (.int .i64 (y : Nat))) := (Turned.refl (fun k => k = w.heap.size + 1) w').setCell (p := ⟨w.heap.size + 1, 0, none⟩) (fun _ => rfl) _
 exact ⟨h.e.put _, h.p.putOther (by omega) _, h.s.putOther (by omega) _, pdisk_law.turned h.disk hT (fun k hk => by subst hk; exact h.off (by omega) (by omega)), h.next,
  h.turned.trans hT (fun k hk hg => by omega), hq, Nat.le_trans h.big hT.size, h.lt⟩
set_option maxHeartbeats 1000000 in
theorem Bo.door {a : Act} {nm : ByteArray} {r : Nat × Sf.St} (h : Bo w fd b bf sz q B f r.2 r.1 w') (hn : nm.size ≤ maxLen) (h0 : w'.cell? ⟨b, 0, none⟩ = some (.pointer (some ⟨bf, 0, none⟩))) (h1 : w'.cell? ⟨b, 1, none⟩ = some (.string nm))
  (hf : Sf.Few r.2) (hsz : sz < 9223372036854775808) (hd : a.defers = [wrD (w.heap.size + 1) w.heap.size q]) (h6 : a.tmps.getD 6 undef = .pointer (some ⟨w.heap.size + 1, 0, none⟩)) :
  bodyPostD Tryz.prog Tryz.f66 (IsDeed PDisk fd bf (Pp.closeE nm sz r) w) .ret a w' := by
 obtain ⟨x, tk⟩ := r
 have hq := h.q2
 have hs := h.turned.size
 show Leaves _ _ _ _ a.defers _ _
 rw [hd]
 unfold wrD
 refine leaves_cons (f := 92) (args := #[.pointer (some ⟨w.heap.size + 1, 0, none⟩), .pointer (some ⟨w.heap.size, 0, none⟩), .pointer (some ⟨q, 0, none⟩)]) (by simp) (by simp [go_sem]) ?_
 by_cases hx : x = 9
 ·subst hx
  refine (pywclose_full nm hn h.disk hf hsz h.e (h.p.cell 0) (h.s.cell 0) h0 h1 (h.off (by omega) (by omega))).mono ?_
  rintro e u' w6 ⟨rfl, rfl, f6, hD6, hN6, hT6, hz6⟩
  refine ⟨_, results_er rfl _ w6 (w.heap.size + 1) _ _ h6 hz6, ?_⟩
  have hc : Pp.closeE nm sz (9, tk) = ((if (Sf.cut tk nm (sz : Nat)).1 ≠ 0 then (Sf.cut tk nm (sz : Nat)).1 else 9), (Sf.cut tk nm (sz : Nat)).2) := if_neg (by simp)
  rw [hc]
  refine ⟨rfl, f6, hD6, h.next.trans hN6 h.big |>.behind (by omega), h.turned.trans hT6 (fun k hk hg => ?_)⟩
  rcases hg with hg | hg
  ·exact (h.next.m k hg).elim id (fun h => by omega)
  ·omega
 ·refine (pywclose_idle (x := (x : Int)) (by omega) (h.e.cell 0)).mono ?_
  rintro e u' w6 ⟨rfl, rfl, rfl⟩
  refine ⟨_, results_er rfl _ w6 (w.heap.size + 1) _ _ h6 h.e, ?_⟩
  have hc : Pp.closeE nm sz (x, tk) = (x, tk) := if_pos hx
  rw [hc]
  exact ⟨rfl, f, h.disk, h.next.behind (by omega), h.turned⟩
theorem wp_cutA {P : Program} {c : Code} {Q : Exit → Act → World → Prop} {a A : Act} {w : World} {X : World → Prop} (h : c.wp P (PostN (fun a' w' => a' = A ∧ X w')) a w) (hq : ∀ w', X w' → Q .normal A w') : c.wp P Q a w :=
 wp_cutN h (fun a w ⟨h1, h2⟩ => by subst h1; exact hq w h2)
theorem Bo.door_ {a : Act} {nm : ByteArray} {r : Nat × Sf.St} {R : Nat × Sf.St} {fp : Fp} {s : Pp.S} {F : List Nat} {U D P H last frm : Nat} {fP : Int → Option RawU} {fH : Int → Option RawH} (h : Bo w fd b bf sz q B f r.2 r.1 w') (hH : PyHas w fp s F b bf U D P H last frm fP fH) (hap : fp.Apart fd) (hnm : s.name = nm)
  (hf : Sf.Few r.2) (hsz : sz < 9223372036854775808) (hR : R = Pp.closeE nm sz r) (hd : a.defers = [wrD (w.heap.size + 1) w.heap.size q]) (h6 : a.tmps.getD 6 undef = .pointer (some ⟨w.heap.size + 1, 0, none⟩)) :
  bodyPostD Tryz.prog Tryz.f66 (IsDeed PDisk fd bf R w) .ret a w' := by
 have hh := hH.turned h.turned hap.1
 subst hR
 exact h.door (by rw [← hnm]; exact hH.sound.name) (hh.cell rfl) (by rw [← hnm]; exact hh.cell rfl) hf hsz hd h6
theorem Bo.leave {a : Act} {r : Nat × Sf.St} {e : Nat} (h : Bo w fd b bf sz q B f tk e w') (hr : r = (e, tk)) (hd : a.defers = []) (h6 : a.tmps.getD 6 undef = .pointer (some ⟨w.heap.size + 1, 0, none⟩)) :
  bodyPostD Tryz.prog Tryz.f66 (IsDeed PDisk fd bf r w) .ret a w' := by
 subst hr
 show Leaves _ _ _ _ a.defers _ _
 rw [hd]
 have hq := h.q2
 exact ⟨_, results_er rfl _ w' (w.heap.size + 1) _ _ h6 h.e, rfl, f, h.disk, h.next.behind (by omega), h.turned⟩
end
section
variable {w w' : World} {fp fd : Fp} {s : Pp.S} {F : List Nat} {b bf U D P H last frm : Nat} {fP : Int → Option RawU} {fH : Int → Option RawH} {t : Sf.St}
set_option maxHeartbeats 4000000 in
set_option maxRecDepth 100000 in
theorem pywrite_any (h : PyHas w fp s F b bf U D P H last frm fP fH) (hD : PDisk w fd t bf) (hap : fp.Apart fd) (ha : t.acts ≤ 1099511300000) (at_ : Nat) (hat : at_ < 2) (v : Value) (B : List Nat) (hB : B.length = 512) (hsz0 : (Sf.size t s.name).1 < 9223372036854775808)
  (hv : Lv yK w w.heap.size v B) (hvm : ∀ k, v.ownBlock = some k → ¬ fd.M k ∧ k < w.heap.size) :
  Calls Tryz.prog 66 #[.pointer (some ⟨b, 0, none⟩), .int .i64 (at_ : Nat), v] w (IsDeed PDisk fd bf (Pp.writeE s.name t (Pp.pend s.l) at_ B) w) := by
 have hmf : ∀ (fn : Fn) (first cap : Array Value) (w : World), (Instr.makeFunc fn first cap).run Tryz.prog w = .ok (.func fn first cap) w := fun _ _ _ _ => rfl
 have HH := Lib.hid h
 have HD := Lib.hid hD
 have HV := Lib.hid (And.intro hv hvm)
 obtain ⟨W, hW⟩ : ∃ W, (w.alloc (.cells #[.pointer (some ⟨b, 0, none⟩)] 27)).alloc (.cells #[.int .i64 0] 24) = W := ⟨_, rfl⟩
 have hs0 : (w.alloc (.cells #[.pointer (some ⟨b, 0, none⟩)] 27)).heap.size = w.heap.size + 1 := by simp
 have hbW : Below w.heap.size w W := by rw [← hW]; exact ((Below.refl _ _).alloc (Nat.le_refl _) _).alloc (by omega) _
 have hsW : W.heap.size = w.heap.size + 2 := by rw [← hW]; simp
 have hy : Rw W w.heap.size 27 #[.pointer (some ⟨b, 0, none⟩)] := by rw [← hW]; exact (Rw.new w _ _).old _
 have hz : Rw W (w.heap.size + 1) 24 #[.int .i64 0] := by rw [← hW, ← hs0]; exact Rw.new _ _ _
 have hWX : Below W.heap.size W W.drew := below_drewN (Below.refl _ _) 1
 obtain ⟨X, hX⟩ : ∃ X, W.drew = X := ⟨_, rfl⟩
 rw [hX] at hWX
 have hbX : Below w.heap.size w X := hbW.trans (hWX.mono hbW.size)
 have hsX : X.heap.size = w.heap.size + 2 := by rw [← hX]; exact hsW
 have HYX : Hid (Rw X w.heap.size 27 #[.pointer (some ⟨b, 0, none⟩)]) := hy.below hWX hy.lt
 have HZX : Hid (Rw X (w.heap.size + 1) 24 #[.int .i64 0]) := hz.below hWX hz.lt
 have HBX := Lib.hid (And.intro hbX hsX)
 have HHX := Lib.hid (h.below hbX)
 have HDX := Lib.hid (pdisk_law.below hD hbX)
 obtain ⟨nm, hnm⟩ : ∃ nm, s.name = nm := ⟨_, rfl⟩
 have hnl := h.sound.name
 rw [hnm] at hnl hsz0 ⊢
 have HNM := Lib.hid (And.intro hnm hnl)
 have HXE : Hid (((w.alloc (.cells #[.pointer (some ⟨b, 0, none⟩)] 27)).alloc (.cells #[.int .i64 0] 24)).drew = X) := by unfold Hid; rw [hW]; exact hX
 have HC : Hid (∀ w', Below X.heap.size X w' → w'.cell? ⟨b, 0, none⟩ = some (.pointer (some ⟨bf, 0, none⟩)) ∧ w'.cell? ⟨b, 1, none⟩ = some (.string nm) ∧ w'.cell? ⟨w.heap.size, 0, none⟩ = some (.pointer (some ⟨b, 0, none⟩))) := fun w' hw' =>
  ⟨(HHX.out.below hw').cell rfl, by rw [← hnm]; exact (HHX.out.below hw').cell rfl, (HYX.out.below hw' HYX.out.lt).cell 0⟩
 have CS := Lib.hid (fun (Y : World) (hY : Below X.heap.size X Y) => psizeOf_any (pdisk_law.below HDX.out hY) nm hnl)
 obtain ⟨sz, es, hse⟩ : ∃ sz es, Sf.size t nm = (sz, es) := ⟨_, _, rfl⟩
 rw [hse] at CS
 have HSE := Lib.hid hse
 rw [hse] at hsz0
 have HA := Lib.hid (And.intro hap (And.intro ha (And.intro hat hB)))
 clear hX; clear h hD hv hvm hW hs0 hbW hsW hy hz hWX hbX hsX hnm hnl hse hap ha hat hB
 go_enter_defers Tryz.func66, Tryz.ntmps66
 go_wp2_with fail
 refine wp_cutN (R := fun a w' => ∃ q, a = { tmps := #[Value.pointer (some { block := b, off := 0 }), Value.int IntKind.i64 (at_ : Nat), v, Value.pointer (some { block := w.heap.size, off := 0 }), undef, undef, Value.pointer (some { block := w.heap.size + 1, off := 0 }), Value.pointer (some { block := q, off := 0 }), Value.tuple #[Value.int IntKind.i64 (sz : Nat), Value.int IntKind.i64 (es : Nat)], Value.pointer (some { block := b, off := 0 }), Value.pointer (some { block := b, off := 0 }), Value.pointer (some { block := b, off := 0 }), Value.pointer (some { block := bf, off := 0 }), Value.pointer (some { block := b, off := 0 }), Value.pointer (some { block := b, off := 0 }), Value.pointer (some { block := b, off := 1 }), Value.string nm, Value.tuple #[Value.int IntKind.i64 (sz : Nat), Value.int IntKind.i64 (es : Nat)], Value.int IntKind.i64 (sz : Nat), Value.int IntKind.i64 (es : Nat), undef, undef, undef, undef, undef, undef, undef, undef, undef, undef, undef, undef, undef, undef, undef, undef, undef, undef, undef, undef, undef, undef, undef, undef, undef, undef, undef, undef, undef, undef, undef, undef, undef, undef, undef, undef, undef, undef, undef, undef, undef, undef, undef, undef, undef], defers := [] } ∧ X.heap.size ≤ q ∧ Rw w' q 3 #[.int .i64 (sz : Nat)] ∧ Rw w' (w.heap.size + 1) 24 #[.int .i64 (es : Nat)] ∧ Turned (fun k => k = w.heap.size + 1) X w') ?_ ?_
 ·refine wp_region_m (fun w' => Below X.heap.size X w') 14 (by kernel_rfl) ?_
  rw [HXE.out]
  have hH : Below X.heap.size X X := Below.refl _ _
  refine zM (i := 0) (v := ?_) rfl (by kernel_rfl) (fun _ _ _ h => h) hH (Or.inl ⟨by rfl, (by intro w' hSw; have s0 := HC.out w' hSw; go_simp; first | done | with_reducible rfl)⟩) ?_
  try simp only [Act.put, zA, zC, zD, zE, zF]
  refine zM (i := 1) (v := ?_) rfl (by kernel_rfl) (fun _ _ _ h => h) hH (Or.inl ⟨by rfl, (by intro w' hSw; have s0 := HC.out w' hSw; go_simp; first | done | with_reducible rfl)⟩) ?_
  try simp only [Act.put, zA, zB, zC, zD, zE, zF]
  refine zM (i := 2) (v := ?_) rfl (by kernel_rfl) (fun _ _ _ h => h) hH (Or.inl ⟨by rfl, (by intro w' hSw; have s0 := HC.out w' hSw; go_simp; first | done | with_reducible rfl)⟩) ?_
  try simp only [Act.put, zA, zB, zC, zD, zE, zF]
  refine zM (i := 3) (v := ?_) rfl (by kernel_rfl) (fun _ _ _ h => h) hH (Or.inl ⟨by rfl, (by intro w' hSw; have s0 := HC.out w' hSw; go_simp; first | done | with_reducible rfl)⟩) ?_
  try simp only [Act.put, zA, zB, zC, zD, zE, zF]
  refine zM (i := 4) (v := ?_) rfl (by kernel_rfl) (fun _ _ _ h => h) hH (Or.inl ⟨by rfl, (by intro w' hSw; have s0 := HC.out w' hSw; go_simp; first | done | with_reducible rfl)⟩) ?_
  try simp only [Act.put, zA, zB, zC, zD, zE, zF]
  refine zM (i := 5) (v := ?_) rfl (by kernel_rfl) (fun _ _ _ h => h) hH (Or.inl ⟨by rfl, (by intro w' hSw; have s0 := HC.out w' hSw; go_simp; first | done | with_reducible rfl)⟩) ?_
  try simp only [Act.put, zA, zB, zC, zD, zE, zF]
  refine zM (i := 6) (v := ?_) rfl (by kernel_rfl) (fun _ _ _ h => h) hH (Or.inl ⟨by rfl, (by intro w' hSw; have s0 := HC.out w' hSw; go_simp; first | done | with_reducible rfl)⟩) ?_
  try simp only [Act.put, zA, zB, zC, zD, zE, zF]
  refine zM (i := 7) (v := ?_) rfl (by kernel_rfl) (fun _ _ _ h => h) hH (Or.inl ⟨by rfl, (by intro w' hSw; have s0 := HC.out w' hSw; go_simp; first | done | with_reducible rfl)⟩) ?_
  try simp only [Act.put, zA, zB, zC, zD, zE, zF]
  refine wpAnyM_two (i := 8) (j := 12) (by kernel_rfl) rfl rfl (fun K hK => ?_) (fun K hK => ?_)
  ·have CP := Lib.hid (CS.out X hH)
   go_simp
   refine CP.out.mono ?_
   rintro e w1 ⟨rfl, b1⟩
   refine hK.out _ _ (.inr b1) ?_
   clear hK K CP
   try simp only []
   refine zM (i := 9) (v := ?_) rfl (by kernel_rfl) (fun _ _ _ h => h) b1 (Or.inl ⟨by rfl, (by intro w' hSw; skip; go_simp; first | done | with_reducible rfl)⟩) ?_
   try simp only [Act.put, zA, zB, zC, zD, zE, zF]
   refine zM (i := 10) (v := ?_) rfl (by kernel_rfl) (fun _ _ _ h => h) b1 (Or.inl ⟨by rfl, (by intro w' hSw; skip; go_simp; first | done | with_reducible rfl)⟩) ?_
   try simp only [Act.put, zA, zB, zC, zD, zE, zF]
   refine zM (i := 11) (v := ?_) rfl (by kernel_rfl) (fun _ _ _ h => h) b1 (Or.inl ⟨by rfl, (by intro w' hSw; skip; go_simp; first | done | with_reducible rfl)⟩) ?_
   try simp only [Act.put, zA, zB, zC, zD, zE, zF]
   have HQ1 : Hid (Rw (w1.alloc (.cells #[.int .i64 0] 3)) w1.heap.size 3 #[.int .i64 0]) := Rw.new w1 _ _
   have HB1 : Hid (Below X.heap.size X (w1.alloc (.cells #[.int .i64 0] 3))) := b1.alloc b1.size _
   refine wpAnyM_next (i := 12) (by kernel_rfl) rfl (fun K hK => ?_)
   go_simp
   refine hK.out _ _ (.inr HB1.out) ?_
   clear hK K
   try simp only [Act.put, zA, zB, zC, zD, zE, zF]
   obtain ⟨q, hq⟩ : ∃ q, w1.heap.size = q := ⟨_, rfl⟩
   obtain ⟨Y, hY⟩ : ∃ Y, w1.alloc (.cells #[.int .i64 0] 3) = Y := ⟨_, rfl⟩
   have hXq : X.heap.size ≤ q := by have := b1.size; omega
   rw [hY] at HQ1 HB1 ⊢
   rw [hq] at HQ1 ⊢
   have c1 : Y.cell? ⟨q, 0, none⟩ = some (.int .i64 0) := HQ1.out.cell 0
   have f1 : Y.frozen? ⟨q, 0, none⟩ = false := HQ1.out.loose
   have HQ2 := Lib.hid (HQ1.out.put (.int .i64 (sz : Nat)))
   have HB2 : Hid (Below X.heap.size X (Y.setCell ⟨q, 0, none⟩ (.int .i64 (sz : Nat)))) := HB1.out.setCell (p := ⟨q, 0, none⟩) hXq _
   obtain ⟨Z, hZ⟩ : ∃ Z, Y.setCell ⟨q, 0, none⟩ (.int .i64 (sz : Nat)) = Z := ⟨_, rfl⟩
   rw [hZ] at HQ2 HB2
   clear hY b1 hq
   refine wpAnyM_next (i := 13) (by kernel_rfl) rfl (fun K hK => ?_)
   go_simp
   first | rw [hZ] | skip
   refine hK.out _ _ (.inr HB2.out) ?_
   clear hK K c1 f1 hZ
   try simp only [Act.put, zA, zB, zC, zD, zE, zF]
   have HZ2 : Hid (Rw Z (w.heap.size + 1) 24 #[.int .i64 0]) := HZX.out.below HB2.out HZX.out.lt
   have c1 : Z.cell? ⟨w.heap.size + 1, 0, none⟩ = some (.int .i64 0) := HZ2.out.cell 0
   have f1 : Z.frozen? ⟨w.heap.size + 1, 0, none⟩ = false := HZ2.out.loose
   refine wpAnyM_next (i := 14) (by kernel_rfl) rfl (fun K hK => ?_)
   go_simp
   refine hK.out _ _ (.inl (Nat.le_refl _)) ?_
   clear hK K c1 f1
   try simp only [Act.put, zA, zB, zC, zD, zE, zF]
   refine wpAnyM_done (by kernel_rfl) ?_ _
   refine ⟨q, rfl, hXq, HQ2.out.putOther (by have := HBX.out.2; omega) _, HZ2.out.put _, ((Turned.of_below HB2.out).mono (G := fun k => k = w.heap.size + 1) (fun q hq h => absurd hq (by omega))).setCell (p := ⟨w.heap.size + 1, 0, none⟩) (fun _ => rfl) _⟩
  ·have HQ0 : Hid (Rw (X.alloc (.cells #[.int .i64 0] 3)) X.heap.size 3 #[.int .i64 0]) := Rw.new X _ _
   have HB0 : Hid (Below X.heap.size X (X.alloc (.cells #[.int .i64 0] 3))) := (Below.refl _ _).alloc (Nat.le_refl _) _
   go_simp
   refine hK.out _ _ (.inr HB0.out) ?_
   clear hK K
   try simp only [Act.put, zA, zB, zC, zD, zE, zF]
   obtain ⟨Y, hY⟩ : ∃ Y, X.alloc (.cells #[.int .i64 0] 3) = Y := ⟨_, rfl⟩
   have hXq : X.heap.size ≤ X.heap.size := Nat.le_refl _
   rw [hY] at HQ0 HB0 ⊢
   have CP := Lib.hid (CS.out Y HB0.out)
   clear hY
   refine wpAnyM_next (i := 8) (by kernel_rfl) rfl (fun K hK => ?_)
   go_simp
   refine CP.out.mono ?_
   rintro e w1 ⟨rfl, b1⟩
   have b1' : Below X.heap.size X w1 := HB0.out.trans (b1.mono HB0.out.size)
   have HQ1 : Hid (Rw w1 X.heap.size 3 #[.int .i64 0]) := HQ0.out.below b1 HQ0.out.lt
   have HB1 := Lib.hid b1'
   refine hK.out _ _ (.inr HB1.out) ?_
   clear hK K CP b1
   try simp only []
   refine zM (i := 9) (v := ?_) rfl (by kernel_rfl) (fun _ _ _ h => h) b1' (Or.inl ⟨by rfl, (by intro w' hSw; skip; go_simp; first | done | with_reducible rfl)⟩) ?_
   try simp only [Act.put, zA, zB, zC, zD, zE, zF]
   refine zM (i := 10) (v := ?_) rfl (by kernel_rfl) (fun _ _ _ h => h) b1' (Or.inl ⟨by rfl, (by intro w' hSw; skip; go_simp; first | done | with_reducible rfl)⟩) ?_
   try simp only [Act.put, zA, zB, zC, zD, zE, zF]
   refine zM (i := 11) (v := ?_) rfl (by kernel_rfl) (fun _ _ _ h => h) b1' (Or.inl ⟨by rfl, (by intro w' hSw; skip; go_simp; first | done | with_reducible rfl)⟩) ?_
   try simp only [Act.put, zA, zB, zC, zD, zE, zF]
   have c1 : w1.cell? ⟨X.heap.size, 0, none⟩ = some (.int .i64 0) := HQ1.out.cell 0
   have f1 : w1.frozen? ⟨X.heap.size, 0, none⟩ = false := HQ1.out.loose
   have HQ2 := Lib.hid (HQ1.out.put (.int .i64 (sz : Nat)))
   have HB2 : Hid (Below X.heap.size X (w1.setCell ⟨X.heap.size, 0, none⟩ (.int .i64 (sz : Nat)))) := HB1.out.setCell (p := ⟨X.heap.size, 0, none⟩) hXq _
   obtain ⟨Z, hZ⟩ : ∃ Z, w1.setCell ⟨X.heap.size, 0, none⟩ (.int .i64 (sz : Nat)) = Z := ⟨_, rfl⟩
   rw [hZ] at HQ2 HB2
   clear b1'
   refine wpAnyM_next (i := 13) (by kernel_rfl) rfl (fun K hK => ?_)
   go_simp
   first | rw [hZ] | skip
   refine hK.out _ _ (.inr HB2.out) ?_
   clear hK K c1 f1 hZ
   try simp only [Act.put, zA, zB, zC, zD, zE, zF]
   have HZ2 : Hid (Rw Z (w.heap.size + 1) 24 #[.int .i64 0]) := HZX.out.below HB2.out HZX.out.lt
   have c1 : Z.cell? ⟨w.heap.size + 1, 0, none⟩ = some (.int .i64 0) := HZ2.out.cell 0
   have f1 : Z.frozen? ⟨w.heap.size + 1, 0, none⟩ = false := HZ2.out.loose
   refine wpAnyM_next (i := 14) (by kernel_rfl) rfl (fun K hK => ?_)
   go_simp
   refine hK.out _ _ (.inl (Nat.le_refl _)) ?_
   clear hK K c1 f1
   try simp only [Act.put, zA, zB, zC, zD, zE, zF]
   refine wpAnyM_done (by kernel_rfl) ?_ _
   refine ⟨X.heap.size, rfl, hXq, HQ2.out.putOther (by have := HBX.out.2; omega) _, HZ2.out.put _, ((Turned.of_below HB2.out).mono (G := fun k => k = w.heap.size + 1) (fun q hq h => absurd hq (by omega))).setCell (p := ⟨w.heap.size + 1, 0, none⟩) (fun _ => rfl) _⟩
 ·rintro a w5 ⟨q, rfl, hq, hqr, hzr, hT5⟩
  dsimp only
  have hHH5 := HHX.out.turned hT5 (fun k hk => by subst hk; have := HH.out.lt; exact ⟨fun h => by have := this _ (.inl h); omega, fun h => by have := this _ (.inr h); omega⟩)
  have hD5 := pdisk_law.turned HDX.out hT5 (fun k hk => by subst hk; have := pdisk_law.lt HD.out; exact ⟨fun h => by have := this _ (.inl h); omega, fun h => by have := this _ (.inr h); omega⟩)
  have hTT : Turned fd.M w w5 := ((Turned.of_below HBX.out.1).mono (fun k hk h => absurd hk (by omega))).trans hT5 (fun k hk h => by omega)
  have HBO : Hid (Bo w fd b bf sz q w5.heap.size fd t es w5) := ⟨hzr, (hT5.block _ HYX.out.lt (by omega)).trans HYX.out, hqr, hD5, Fp.Next.refl _ _, hTT, ⟨by have := HBX.out.2; omega, hqr.lt⟩, Nat.le_refl _, pdisk_law.lt HD.out⟩
  have HH5 := Lib.hid hHH5
  have c1 : w5.cell? ⟨w.heap.size + 1, 0, none⟩ = some (.int .i64 (es : Nat)) := HBO.out.e.cell 0
  have f1 : w5.frozen? ⟨w.heap.size + 1, 0, none⟩ = false := HBO.out.e.loose
  have hd1 : w5.cell? ⟨w.heap.size, 0, none⟩ = some (.pointer (some ⟨b, 0, none⟩)) := HBO.out.p.cell 0
  clear hHH5 hD5 hTT hq hqr hzr hT5
  have HSZ : Hid (sz < 9223372036854775808) := hsz0
  by_cases he : es = 0
  ·subst he
   have HW0 : Hid (Pp.writeE nm t (Pp.pend s.l) at_ B = Pp.closeE nm sz (Pp.bodyE nm t (Pp.pend s.l) at_ B)) := by unfold Hid Pp.writeE; rw [HSE.out, if_neg (by simp)]
   have CWP := Lib.hid (pywritePending_any HH5.out HBO.out.disk HA.out.1 (by have := HA.out.2.1; omega))
   obtain ⟨pl, hpl⟩ : ∃ pl, Pp.pend s.l = pl := ⟨_, rfl⟩
   rw [HNM.out.1, hpl] at CWP
   rw [hpl] at HW0
   have HPLE := Lib.hid hpl
   have hpa := Pp.putsL_acts nm pl t
   have hpn : pl.length ≤ 65536 := by
    have h1 := Pp.rising_few HH.out.sound.rise (a := 2) (c := 65536) (fun x hx => by have := HH.out.sound.from2 x hx; omega)
    have h2 : pl.length ≤ s.l.length := by rw [← hpl]; exact List.length_filter_le _ _
    omega
   obtain ⟨x1, t1, hp1⟩ : ∃ x1 t1, Pp.putsL nm t pl = (x1, t1) := ⟨_, _, rfl⟩
   rw [hp1] at CWP hpa
   have HT1 : Hid (t1.acts ≤ 1099511500000) := by unfold Hid; have := HA.out.2.1; have h : t1.acts ≤ t.acts + 2 * pl.length := hpa; omega
   have HB1 : Hid (Pp.bodyE nm t pl at_ B = if x1 ≠ 0 then (x1, t1) else if (Sf.sync t1 nm).1 ≠ 0 then Sf.sync t1 nm else if (Sf.write (Sf.sync t1 nm).2 nm ((512 * at_ : Nat) : Int) B).1 ≠ 0 then Sf.write (Sf.sync t1 nm).2 nm ((512 * at_ : Nat) : Int) B else Sf.sync (Sf.write (Sf.sync t1 nm).2 nm ((512 * at_ : Nat) : Int) B).2 nm) := by unfold Hid Pp.bodyE; rw [hp1]
   clear HSE hpl hpa hpn hp1
   go_wp2_with fail
   refine CWP.out.mono ?_
   rintro e w6 ⟨rfl, f6, hD6, hN6, hT6⟩
   have HO6 := Lib.hid (HBO.out.deed hD6 hN6 hT6)
   clear c1 f1 hd1 CWP hD6 hN6 hT6
   have c1 : w6.cell? ⟨w.heap.size + 1, 0, none⟩ = some (.int .i64 (0 : Nat)) := HO6.out.e.cell 0
   have f1 : w6.frozen? ⟨w.heap.size + 1, 0, none⟩ = false := HO6.out.e.loose
   obtain ⟨w7, hw7⟩ : ∃ w7, w6.setCell ⟨w.heap.size + 1, 0, none⟩ (.int .i64 (x1 : Nat)) = w7 := ⟨_, rfl⟩
   have HO7 : Hid (Bo w fd b bf sz q w5.heap.size f6 t1 x1 w7) := by unfold Hid; rw [← hw7]; exact HO6.out.put x1
   have c2 : w7.cell? ⟨w.heap.size + 1, 0, none⟩ = some (.int .i64 (x1 : Nat)) := HO7.out.e.cell 0
   have f2 : w7.frozen? ⟨w.heap.size + 1, 0, none⟩ = false := HO7.out.e.loose
   simp only
   by_cases h0 : x1 ≠ 0
   ·have hdx : ((x1 : Int) == 0) = false := by rw [beq_eq_false_iff_ne]; omega
    have HE : Hid (Pp.bodyE nm t pl at_ B = (x1, t1)) := by unfold Hid; rw [HB1.out, if_pos h0]
    go_wp2_with fail
    exact (HO7.out.put x1).door_ (r := (x1, t1)) HH.out HA.out.1 HNM.out.1 (by unfold Sf.Few; have := HT1.out; show t1.acts < _; omega) HSZ.out (by rw [HPLE.out, HW0.out, HE.out]) rfl rfl
   obtain rfl : x1 = 0 := by omega
   go_wp2_with fail
   first | rw [hw7] | (simp only [Int.cast_ofNat_Int] at hw7; rw [hw7])
   have HB1n : Hid (Pp.bodyE nm t pl at_ B = if (Sf.sync t1 nm).1 ≠ 0 then Sf.sync t1 nm else if (Sf.write (Sf.sync t1 nm).2 nm ((512 * at_ : Nat) : Int) B).1 ≠ 0 then Sf.write (Sf.sync t1 nm).2 nm ((512 * at_ : Nat) : Int) B else Sf.sync (Sf.write (Sf.sync t1 nm).2 nm ((512 * at_ : Nat) : Int) B).2 nm) := by unfold Hid; rw [HB1.out, if_neg (by simp)]
   clear HB1
   obtain ⟨y0, hy⟩ : ∃ Y, w7.drew = Y := ⟨_, rfl⟩
   have hdr : Below w7.heap.size w7 y0 := by rw [← hy]; exact below_drewN (Below.refl _ _) 1
   have HOy0 := Lib.hid (HO7.out.below hdr)
   have HC0 : Hid (∀ w', Below y0.heap.size y0 w' → w'.cell? ⟨b, 0, none⟩ = some (.pointer (some ⟨bf, 0, none⟩)) ∧ w'.cell? ⟨b, 1, none⟩ = some (.string nm) ∧ w'.cell? ⟨w.heap.size, 0, none⟩ = some (.pointer (some ⟨b, 0, none⟩))) := fun w' hw' => by
    have hb := HOy0.out.below hw'
    have hh := HH.out.turned hb.turned HA.out.1.1
    exact ⟨hh.cell rfl, by rw [← HNM.out.1]; exact hh.cell rfl, hb.p.cell 0⟩
   have CC := Lib.hid (psync_any HOy0.out.disk (by unfold Sf.Few; have := HT1.out; omega) nm HNM.out.2)
   obtain ⟨x1, t2, hce⟩ : ∃ x t, Sf.sync t1 nm = (x, t) := ⟨_, _, rfl⟩
   rw [hce] at CC
   have hac := Pp.sync_acts t1 nm
   rw [hce] at hac
   have HT2a : Hid (t2.acts ≤ t1.acts + 1) := hac
   have HT2 : Hid (t2.acts ≤ 1099511500001) := by unfold Hid; have := HT2a.out; have := HT1.out; omega
   have HB2 : Hid (Pp.bodyE nm t pl at_ B = if x1 ≠ 0 then (x1, t2) else if (Sf.write t2 nm ((512 * at_ : Nat) : Int) B).1 ≠ 0 then Sf.write t2 nm ((512 * at_ : Nat) : Int) B else Sf.sync (Sf.write t2 nm ((512 * at_ : Nat) : Int) B).2 nm) := by unfold Hid; rw [HB1n.out, hce]
   clear hdr hac hce c2 f2 c1 f1 hw7
   apply wp_cutA (X := fun w' => ∃ fN, Bo w fd b bf sz q w5.heap.size fN t2 x1 w')
   ·refine wp_region_m (fun w' => Below y0.heap.size y0 w') 8 (by kernel_rfl) ?_
    rw [hy]
    have hH : Below y0.heap.size y0 y0 := Below.refl _ _
    refine zM (i := 0) (v := ?_) rfl (by kernel_rfl) (fun _ _ _ h => h) hH (Or.inl ⟨by rfl, (by intro w' hSw; have s0 := HC0.out w' hSw; go_simp; first | done | with_reducible rfl)⟩) ?_
    try simp only [Act.put, zA, zC, zD, zE, zF]
    refine zM (i := 1) (v := ?_) rfl (by kernel_rfl) (fun _ _ _ h => h) hH (Or.inl ⟨by rfl, (by intro w' hSw; have s0 := HC0.out w' hSw; go_simp; first | done | with_reducible rfl)⟩) ?_
    try simp only [Act.put, zA, zB, zC, zD, zE, zF]
    refine zM (i := 2) (v := ?_) rfl (by kernel_rfl) (fun _ _ _ h => h) hH (Or.inl ⟨by rfl, (by intro w' hSw; have s0 := HC0.out w' hSw; go_simp; first | done | with_reducible rfl)⟩) ?_
    try simp only [Act.put, zA, zB, zC, zD, zE, zF]
    refine zM (i := 3) (v := ?_) rfl (by kernel_rfl) (fun _ _ _ h => h) hH (Or.inl ⟨by rfl, (by intro w' hSw; have s0 := HC0.out w' hSw; go_simp; first | done | with_reducible rfl)⟩) ?_
    try simp only [Act.put, zA, zB, zC, zD, zE, zF]
    refine zM (i := 4) (v := ?_) rfl (by kernel_rfl) (fun _ _ _ h => h) hH (Or.inl ⟨by rfl, (by intro w' hSw; have s0 := HC0.out w' hSw; go_simp; first | done | with_reducible rfl)⟩) ?_
    try simp only [Act.put, zA, zB, zC, zD, zE, zF]
    refine zM (i := 5) (v := ?_) rfl (by kernel_rfl) (fun _ _ _ h => h) hH (Or.inl ⟨by rfl, (by intro w' hSw; have s0 := HC0.out w' hSw; go_simp; first | done | with_reducible rfl)⟩) ?_
    try simp only [Act.put, zA, zB, zC, zD, zE, zF]
    refine zM (i := 6) (v := ?_) rfl (by kernel_rfl) (fun _ _ _ h => h) hH (Or.inl ⟨by rfl, (by intro w' hSw; have s0 := HC0.out w' hSw; go_simp; first | done | with_reducible rfl)⟩) ?_
    try simp only [Act.put, zA, zB, zC, zD, zE, zF]
    refine zM (i := 7) (v := ?_) rfl (by kernel_rfl) (fun _ _ _ h => h) hH (Or.inl ⟨by rfl, (by intro w' hSw; have s0 := HC0.out w' hSw; go_simp; first | done | with_reducible rfl)⟩) ?_
    try simp only [Act.put, zA, zB, zC, zD, zE, zF]
    refine wpAnyM_next (i := 8) (by kernel_rfl) rfl (fun K hK => ?_)
    go_simp
    refine CC.out.mono ?_
    rintro e w8 ⟨rfl, f8, hD, hN, hT⟩
    have HO8 := Lib.hid (HOy0.out.deed hD hN hT)
    refine hK.out _ _ (.inl (Nat.le_refl _)) ?_
    clear hK K hD hN hT
    try simp only []
    have c1 : w8.cell? ⟨w.heap.size + 1, 0, none⟩ = some (.int .i64 (0 : Nat)) := HO8.out.e.cell 0
    have f1 : w8.frozen? ⟨w.heap.size + 1, 0, none⟩ = false := HO8.out.e.loose
    obtain ⟨w9, hw9⟩ : ∃ W, w8.setCell ⟨w.heap.size + 1, 0, none⟩ (.int .i64 (x1 : Nat)) = W := ⟨_, rfl⟩
    have HO9 : Hid (Bo w fd b bf sz q w5.heap.size f8 t2 x1 w9) := by unfold Hid; rw [← hw9]; exact HO8.out.put x1
    refine wpAnyM_next (i := 9) (by kernel_rfl) rfl (fun K hK => ?_)
    go_simp
    refine hK.out _ _ (.inl (Nat.le_succ _)) ?_
    clear hK K
    try simp only [Act.put, zA, zB, zC, zD, zE, zF]
    refine wpAnyM_done (by kernel_rfl) ?_ _
    first | rw [hw9] | skip
    exact ⟨rfl, _, HO9.out⟩
   rintro w9 ⟨f8, hO⟩
   have HO9 := Lib.hid hO
   clear hO hy CC
   have c2 : w9.cell? ⟨w.heap.size + 1, 0, none⟩ = some (.int .i64 (x1 : Nat)) := HO9.out.e.cell 0
   have f2 : w9.frozen? ⟨w.heap.size + 1, 0, none⟩ = false := HO9.out.e.loose
   by_cases h0 : x1 ≠ 0
   ·have hdx : ((x1 : Int) == 0) = false := by rw [beq_eq_false_iff_ne]; omega
    have HE : Hid (Pp.bodyE nm t pl at_ B = (x1, t2)) := by unfold Hid; rw [HB2.out, if_pos h0]
    go_wp2_with fail
    exact (HO9.out.put x1).door_ (r := (x1, t2)) HH.out HA.out.1 HNM.out.1 (by unfold Sf.Few; have := HT2.out; show t2.acts < _; omega) HSZ.out (by rw [HPLE.out, HW0.out, HE.out]) rfl rfl
   obtain rfl : x1 = 0 := by omega
   go_wp2_with fail
   have HB2n : Hid (Pp.bodyE nm t pl at_ B = if (Sf.write t2 nm ((512 * at_ : Nat) : Int) B).1 ≠ 0 then Sf.write t2 nm ((512 * at_ : Nat) : Int) B else Sf.sync (Sf.write t2 nm ((512 * at_ : Nat) : Int) B).2 nm) := by unfold Hid; rw [HB2.out, if_neg (by simp)]
   clear HB2
   obtain ⟨y1, hy⟩ : ∃ Y, w9.drew = Y := ⟨_, rfl⟩
   have hdr : Below w9.heap.size w9 y1 := by rw [← hy]; exact below_drewN (Below.refl _ _) 1
   have HOy1 := Lib.hid (HO9.out.below hdr)
   have HC1 : Hid (∀ w', Below y1.heap.size y1 w' → w'.cell? ⟨b, 0, none⟩ = some (.pointer (some ⟨bf, 0, none⟩)) ∧ w'.cell? ⟨b, 1, none⟩ = some (.string nm) ∧ w'.cell? ⟨w.heap.size, 0, none⟩ = some (.pointer (some ⟨b, 0, none⟩))) := fun w' hw' => by
    have hb := HOy1.out.below hw'
    have hh := HH.out.turned hb.turned HA.out.1.1
    exact ⟨hh.cell rfl, by rw [← HNM.out.1]; exact hh.cell rfl, hb.p.cell 0⟩
   have CC := Lib.hid (pwrite_any HOy1.out.disk (by unfold Sf.Few; have := HT2.out; omega) nm HNM.out.2 ((512 * at_ : Nat) : Int) (by have := HA.out.2.2.1; unfold I64; omega) v y1.heap.size B ((HV.out.1.turnedB_ HOy1.out.turned (fun _ k hk => (HV.out.2 k hk).1)).mono_ HOy1.out.turned.size) (Nat.le_refl _) (fun _ k hk hm => (HOy1.out.next.m k hm).elim (HV.out.2 k hk).1 (fun h => by have h1 := (HV.out.2 k hk).2; have h2 := HOy1.out.q2; omega)))
   obtain ⟨x2, t3, hce⟩ : ∃ x t, Sf.write t2 nm ((512 * at_ : Nat) : Int) B = (x, t) := ⟨_, _, rfl⟩
   rw [hce] at CC
   have hac := Pp.write_acts t2 nm ((512 * at_ : Nat) : Int) B
   rw [hce] at hac
   have HT3a : Hid (t3.acts ≤ t2.acts + 1) := hac
   have HT3 : Hid (t3.acts ≤ 1099511500002) := by unfold Hid; have := HT3a.out; have := HT2.out; omega
   have HB3 : Hid (Pp.bodyE nm t pl at_ B = if x2 ≠ 0 then (x2, t3) else Sf.sync t3 nm) := by unfold Hid; rw [HB2n.out, hce]
   clear hdr hac hce c2 f2 
   apply wp_cutA (X := fun w' => ∃ fN, Bo w fd b bf sz q w5.heap.size fN t3 x2 w')
   ·refine wp_region_m (fun w' => Below y1.heap.size y1 w') 11 (by kernel_rfl) ?_
    rw [hy]
    have hH : Below y1.heap.size y1 y1 := Below.refl _ _
    refine zM (i := 0) (v := ?_) rfl (by kernel_rfl) (fun _ _ _ h => h) hH (Or.inl ⟨by rfl, (by intro w' hSw; have s0 := HC1.out w' hSw; go_simp; first | done | with_reducible rfl)⟩) ?_
    try simp only [Act.put, zA, zC, zD, zE, zF]
    refine zM (i := 1) (v := ?_) rfl (by kernel_rfl) (fun _ _ _ h => h) hH (Or.inl ⟨by rfl, (by intro w' hSw; have s0 := HC1.out w' hSw; go_simp; first | done | with_reducible rfl)⟩) ?_
    try simp only [Act.put, zA, zB, zC, zD, zE, zF]
    refine zM (i := 2) (v := ?_) rfl (by kernel_rfl) (fun _ _ _ h => h) hH (Or.inl ⟨by rfl, (by intro w' hSw; have s0 := HC1.out w' hSw; go_simp; first | done | with_reducible rfl)⟩) ?_
    try simp only [Act.put, zA, zB, zC, zD, zE, zF]
    refine zM (i := 3) (v := ?_) rfl (by kernel_rfl) (fun _ _ _ h => h) hH (Or.inl ⟨by rfl, (by intro w' hSw; have s0 := HC1.out w' hSw; go_simp; first | done | with_reducible rfl)⟩) ?_
    try simp only [Act.put, zA, zB, zC, zD, zE, zF]
    refine zM (i := 4) (v := ?_) rfl (by kernel_rfl) (fun _ _ _ h => h) hH (Or.inl ⟨by rfl, (by intro w' hSw; have s0 := HC1.out w' hSw; go_simp; first | done | with_reducible rfl)⟩) ?_
    try simp only [Act.put, zA, zB, zC, zD, zE, zF]
    refine zM (i := 5) (v := ?_) rfl (by kernel_rfl) (fun _ _ _ h => h) hH (Or.inl ⟨by rfl, (by intro w' hSw; have s0 := HC1.out w' hSw; go_simp; first | done | with_reducible rfl)⟩) ?_
    try simp only [Act.put, zA, zB, zC, zD, zE, zF]
    refine zM (i := 6) (v := ?_) rfl (by kernel_rfl) (fun _ _ _ h => h) hH (Or.inl ⟨by rfl, (by intro w' hSw; have s0 := HC1.out w' hSw; go_simp; first | done | with_reducible rfl)⟩) ?_
    try simp only [Act.put, zA, zB, zC, zD, zE, zF]
    refine zM (i := 7) (v := ?_) rfl (by kernel_rfl) (fun _ _ _ h => h) hH (Or.inl ⟨by rfl, (by intro w' hSw; have s0 := HC1.out w' hSw; go_simp; first | done | with_reducible rfl)⟩) ?_
    try simp only [Act.put, zA, zB, zC, zD, zE, zF]
    refine zM (i := 8) (v := ?_) rfl (by kernel_rfl) (fun _ _ _ h => h) hH (Or.inl ⟨by rfl, (by intro w' hSw; have s0 := HC1.out w' hSw; go_simp; first | done | with_reducible rfl)⟩) ?_
    try simp only [Act.put, zA, zB, zC, zD, zE, zF]
    refine zM (i := 10) (v := ?_) rfl (by kernel_rfl) (fun _ _ _ h => h) hH (Or.inl ⟨by rfl, (by intro w' hSw; have s0 := HC1.out w' hSw; go_simp; first | done | with_reducible rfl)⟩) ?_
    try simp only [Act.put, zA, zB, zC, zD, zE, zF]
    have CPL := Lib.hid (pyplace_any at_ (by have := HA.out.2.2.1; omega) y1)
    refine wpAnyM_next (i := 9) (by kernel_rfl) rfl (fun K hK => ?_)
    go_simp
    refine CPL.out.mono ?_
    rintro e w' ⟨rfl, rfl⟩
    refine hK.out _ _ (.inr hH) ?_
    clear hK K CPL
    try simp only [Act.put, zA, zB, zC, zD, zE, zF]
    refine wpAnyM_next (i := 11) (by kernel_rfl) rfl (fun K hK => ?_)
    go_simp
    refine CC.out.mono ?_
    rintro e w10 ⟨rfl, f10, hD, hN, hT⟩
    have HO10 := Lib.hid (HOy1.out.deed hD hN hT)
    refine hK.out _ _ (.inl (Nat.le_refl _)) ?_
    clear hK K hD hN hT
    try simp only []
    have c1 : w10.cell? ⟨w.heap.size + 1, 0, none⟩ = some (.int .i64 (0 : Nat)) := HO10.out.e.cell 0
    have f1 : w10.frozen? ⟨w.heap.size + 1, 0, none⟩ = false := HO10.out.e.loose
    obtain ⟨w11, hw11⟩ : ∃ W, w10.setCell ⟨w.heap.size + 1, 0, none⟩ (.int .i64 (x2 : Nat)) = W := ⟨_, rfl⟩
    have HO11 : Hid (Bo w fd b bf sz q w5.heap.size f10 t3 x2 w11) := by unfold Hid; rw [← hw11]; exact HO10.out.put x2
    refine wpAnyM_next (i := 12) (by kernel_rfl) rfl (fun K hK => ?_)
    go_simp
    refine hK.out _ _ (.inl (Nat.le_succ _)) ?_
    clear hK K
    try simp only [Act.put, zA, zB, zC, zD, zE, zF]
    refine wpAnyM_done (by kernel_rfl) ?_ _
    first | rw [hw11] | skip
    exact ⟨rfl, _, HO11.out⟩
   rintro w11 ⟨f10, hO⟩
   have HO11 := Lib.hid hO
   clear hO hy CC
   have c2 : w11.cell? ⟨w.heap.size + 1, 0, none⟩ = some (.int .i64 (x2 : Nat)) := HO11.out.e.cell 0
   have f2 : w11.frozen? ⟨w.heap.size + 1, 0, none⟩ = false := HO11.out.e.loose
   by_cases h0 : x2 ≠ 0
   ·have hdx : ((x2 : Int) == 0) = false := by rw [beq_eq_false_iff_ne]; omega
    have HE : Hid (Pp.bodyE nm t pl at_ B = (x2, t3)) := by unfold Hid; rw [HB3.out, if_pos h0]
    go_wp2_with fail
    exact (HO11.out.put x2).door_ (r := (x2, t3)) HH.out HA.out.1 HNM.out.1 (by unfold Sf.Few; have := HT3.out; show t3.acts < _; omega) HSZ.out (by rw [HPLE.out, HW0.out, HE.out]) rfl rfl
   obtain rfl : x2 = 0 := by omega
   go_wp2_with fail
   have HB3n : Hid (Pp.bodyE nm t pl at_ B = Sf.sync t3 nm) := by unfold Hid; rw [HB3.out, if_neg (by simp)]
   clear HB3
   obtain ⟨y2, hy⟩ : ∃ Y, w11.drew = Y := ⟨_, rfl⟩
   have hdr : Below w11.heap.size w11 y2 := by rw [← hy]; exact below_drewN (Below.refl _ _) 1
   have HOy2 := Lib.hid (HO11.out.below hdr)
   have HC2 : Hid (∀ w', Below y2.heap.size y2 w' → w'.cell? ⟨b, 0, none⟩ = some (.pointer (some ⟨bf, 0, none⟩)) ∧ w'.cell? ⟨b, 1, none⟩ = some (.string nm) ∧ w'.cell? ⟨w.heap.size, 0, none⟩ = some (.pointer (some ⟨b, 0, none⟩))) := fun w' hw' => by
    have hb := HOy2.out.below hw'
    have hh := HH.out.turned hb.turned HA.out.1.1
    exact ⟨hh.cell rfl, by rw [← HNM.out.1]; exact hh.cell rfl, hb.p.cell 0⟩
   have CC := Lib.hid (psync_any HOy2.out.disk (by unfold Sf.Few; have := HT3.out; omega) nm HNM.out.2)
   obtain ⟨x3, t4, hce⟩ : ∃ x t, Sf.sync t3 nm = (x, t) := ⟨_, _, rfl⟩
   rw [hce] at CC
   have hac := Pp.sync_acts t3 nm
   rw [hce] at hac
   have HT4a : Hid (t4.acts ≤ t3.acts + 1) := hac
   have HT4 : Hid (t4.acts ≤ 1099511500003) := by unfold Hid; have := HT4a.out; have := HT3.out; omega
   have HB4 : Hid (Pp.bodyE nm t pl at_ B = (x3, t4)) := by unfold Hid; rw [HB3n.out, hce]
   clear hdr hac hce c2 f2 
   apply wp_cutA (X := fun w' => ∃ fN, Bo w fd b bf sz q w5.heap.size fN t4 x3 w')
   ·refine wp_region_m (fun w' => Below y2.heap.size y2 w') 8 (by kernel_rfl) ?_
    rw [hy]
    have hH : Below y2.heap.size y2 y2 := Below.refl _ _
    refine zM (i := 0) (v := ?_) rfl (by kernel_rfl) (fun _ _ _ h => h) hH (Or.inl ⟨by rfl, (by intro w' hSw; have s0 := HC2.out w' hSw; go_simp; first | done | with_reducible rfl)⟩) ?_
    try simp only [Act.put, zA, zC, zD, zE, zF]
    refine zM (i := 1) (v := ?_) rfl (by kernel_rfl) (fun _ _ _ h => h) hH (Or.inl ⟨by rfl, (by intro w' hSw; have s0 := HC2.out w' hSw; go_simp; first | done | with_reducible rfl)⟩) ?_
    try simp only [Act.put, zA, zB, zC, zD, zE, zF]
    refine zM (i := 2) (v := ?_) rfl (by kernel_rfl) (fun _ _ _ h => h) hH (Or.inl ⟨by rfl, (by intro w' hSw; have s0 := HC2.out w' hSw; go_simp; first | done | with_reducible rfl)⟩) ?_
    try simp only [Act.put, zA, zB, zC, zD, zE, zF]
    refine zM (i := 3) (v := ?_) rfl (by kernel_rfl) (fun _ _ _ h => h) hH (Or.inl ⟨by rfl, (by intro w' hSw; have s0 := HC2.out w' hSw; go_simp; first | done | with_reducible rfl)⟩) ?_
    try simp only [Act.put, zA, zB, zC, zD, zE, zF]
    refine zM (i := 4) (v := ?_) rfl (by kernel_rfl) (fun _ _ _ h => h) hH (Or.inl ⟨by rfl, (by intro w' hSw; have s0 := HC2.out w' hSw; go_simp; first | done | with_reducible rfl)⟩) ?_
    try simp only [Act.put, zA, zB, zC, zD, zE, zF]
    refine zM (i := 5) (v := ?_) rfl (by kernel_rfl) (fun _ _ _ h => h) hH (Or.inl ⟨by rfl, (by intro w' hSw; have s0 := HC2.out w' hSw; go_simp; first | done | with_reducible rfl)⟩) ?_
    try simp only [Act.put, zA, zB, zC, zD, zE, zF]
    refine zM (i := 6) (v := ?_) rfl (by kernel_rfl) (fun _ _ _ h => h) hH (Or.inl ⟨by rfl, (by intro w' hSw; have s0 := HC2.out w' hSw; go_simp; first | done | with_reducible rfl)⟩) ?_
    try simp only [Act.put, zA, zB, zC, zD, zE, zF]
    refine zM (i := 7) (v := ?_) rfl (by kernel_rfl) (fun _ _ _ h => h) hH (Or.inl ⟨by rfl, (by intro w' hSw; have s0 := HC2.out w' hSw; go_simp; first | done | with_reducible rfl)⟩) ?_
    try simp only [Act.put, zA, zB, zC, zD, zE, zF]
    refine wpAnyM_next (i := 8) (by kernel_rfl) rfl (fun K hK => ?_)
    go_simp
    refine CC.out.mono ?_
    rintro e w12 ⟨rfl, f12, hD, hN, hT⟩
    have HO12 := Lib.hid (HOy2.out.deed hD hN hT)
    refine hK.out _ _ (.inl (Nat.le_refl _)) ?_
    clear hK K hD hN hT
    try simp only []
    have c1 : w12.cell? ⟨w.heap.size + 1, 0, none⟩ = some (.int .i64 (0 : Nat)) := HO12.out.e.cell 0
    have f1 : w12.frozen? ⟨w.heap.size + 1, 0, none⟩ = false := HO12.out.e.loose
    obtain ⟨w13, hw13⟩ : ∃ W, w12.setCell ⟨w.heap.size + 1, 0, none⟩ (.int .i64 (x3 : Nat)) = W := ⟨_, rfl⟩
    have HO13 : Hid (Bo w fd b bf sz q w5.heap.size f12 t4 x3 w13) := by unfold Hid; rw [← hw13]; exact HO12.out.put x3
    refine wpAnyM_next (i := 9) (by kernel_rfl) rfl (fun K hK => ?_)
    go_simp
    refine hK.out _ _ (.inl (Nat.le_succ _)) ?_
    clear hK K
    try simp only [Act.put, zA, zB, zC, zD, zE, zF]
    refine wpAnyM_done (by kernel_rfl) ?_ _
    first | rw [hw13] | skip
    exact ⟨rfl, _, HO13.out⟩
   rintro w13 ⟨f12, hO⟩
   have HO13 := Lib.hid hO
   clear hO hy CC
   have c2 : w13.cell? ⟨w.heap.size + 1, 0, none⟩ = some (.int .i64 (x3 : Nat)) := HO13.out.e.cell 0
   have f2 : w13.frozen? ⟨w.heap.size + 1, 0, none⟩ = false := HO13.out.e.loose
   go_wp2_with fail
   exact HO13.out.door_ (r := (x3, t4)) HH.out HA.out.1 HNM.out.1 (by unfold Sf.Few; have := HT4.out; show t4.acts < _; omega) HSZ.out (by rw [HPLE.out, HW0.out, HB4.out]) rfl rfl
  ·have HW0 : Hid (Pp.writeE nm t (Pp.pend s.l) at_ B = (es, t)) := by unfold Hid Pp.writeE; rw [HSE.out, if_pos he]
   have hd : ((es : Int) == 0) = false := by rw [beq_eq_false_iff_ne]; omega
   clear HSE
   go_wp2_with fail
   exact (HBO.out.put es).leave HW0.out rfl rfl
end
end Go.Proofs.YtiafeniflkikeaaGreat
namespace Go.Proofs.YtiafeniflkikeaaGreat
open Go.RowKit
set_option linter.unusedVariables false
section
variable {w w' : World} {f fp : Fp} {s : Pp.S} {F : List Nat} {b bf U D P H last frm : Nat} {fP : Int → Option RawU} {fH : Int → Option RawH}
theorem PyHas.make {l' : List Pa.Page} {frm' : Nat} {fP' : Int → Option RawU} (h : PyHas w fp s F b bf U D P H last frm fP fH) (B : Nat → Prop) (hB : ∀ k, fp.R k → B k) (hB2 : ∀ k, B k → ¬ fp.M k ∧ k < w'.heap.size) (hT : Turned fp.M w w')
  (head' : Rw w' b 79 (pyC bf s U D P H last frm')) (used' : IsMp nuM w' U 65536 (Pp.usedF l')) (drop' : IsMp nuM w' D 65536 (Pp.dropF l')) (pend' : IsMp peM w' P 65536 fP') (hand' : IsMp haM w' H 65536 fH)
  (hp : ∀ k c, fP' k = some c → ∃ x ∈ l', (x.n : Int) = k ∧ x.state = 2 ∧ InB w' B c x.kind x.body) (th : ∀ x ∈ l', x.state = 2 → (fP' (x.n : Int)).isSome) (hh : ∀ x ∈ s.l, x.state ≠ 2 → ∃ y ∈ l', y.n = x.n ∧ y.state ≠ 2)
  (hf : 2 ≤ frm' ∧ frm' ≤ 65536) (hfl : ∀ k : Nat, 2 ≤ k → k < frm' → ∃ x ∈ l', x.n = k) (hr : Pa.Rising l') (h2 : ∀ x ∈ l', 2 ≤ x.n ∧ x.n < 65536 ∧ (x.state = 1 ∨ x.state = 2 ∨ x.state = 3)) :
  PyHas w' ⟨fp.M, B⟩ { s with l := l' } F b bf U D P H last frm' fP' fH := by
 refine ⟨head', used', drop', pend', hand', hp, th, fun k c hc => ?_, h.few, h.last, hf, hfl, ⟨h.sound.root, hr, h2, h.sound.told, h.sound.big, h.sound.cache, h.sound.name⟩, h.m, hB2, h.sb, h.su, h.sd, h.sp⟩
 obtain ⟨⟨x, a1, a2, a3⟩, a4, kd, bd, a5, a6⟩ := h.hhand k c hc
 obtain ⟨y, hy, hy2, hy3⟩ := hh x a1 a3
 exact ⟨⟨y, hy, by rw [hy2]; exact a2, hy3⟩, a4, kd, bd, (a5.turned hT (fun q hq hm => (h.r q hq).1 hm)).more hB, a6⟩
theorem pyC_from (bf : Nat) (s : Pp.S) (U D P H last frm k : Nat) : (pyC bf s U D P H last frm).setIfInBounds 15 (.int .i64 (k : Nat)) = pyC bf s U D P H last k := rfl
set_option maxHeartbeats 2000000 in
set_option maxRecDepth 100000 in
theorem pybegin_any {fU : Int → Option Unit} {fD : Int → Option Unit} {s : Pp.S} {n1 n2 n3 : Nat} (hh : Rw w b 79 (pyC bf s U D P H last frm)) (hd : IsMp nuM w D n1 fD) (hp : IsMp peM w P n2 fP) (hbD : b ≠ D) (hbP : b ≠ P) (hPD : P ≠ D) :
  Calls Tryz.prog 76 #[.pointer (some ⟨b, 0, none⟩)] w (fun e w' => e = .returned (.tuple #[]) ∧ Rw w' b 79 (pyC bf s U D P H last 2) ∧ IsMp nuM w' D 0 (fun _ => none) ∧ IsMp peM w' P 0 (fun _ => none) ∧ Turned (fun q => q = b ∨ q = D ∨ q = P) w w') := by
 have HP := Lib.hid hp
 have HD := Lib.hid hd
 have HH := Lib.hid hh
 have h11 : w.cell? ⟨b, 11, none⟩ = some (.map (some P)) := hh.cell 11
 have HN := Lib.hid (And.intro hbD (And.intro hbP hPD))
 clear hh hd hp
 go_enter Tryz.func76, Tryz.ntmps76
 go_wp2_with (refine wpList_clear_mp _ peM rfl _ rfl P n2 fP rfl HP.out ?_)
 intro w1 hm1 hg1
 have HP1 := Lib.hid hm1
 have HT1 : Hid (Turned (fun q => q = b ∨ q = D ∨ q = P) w w1) := (Turned.of_grown hg1).mono (fun q _ h => .inr (.inr (Option.some.inj h).symm))
 have HD1 : Hid (IsMp nuM w1 D n1 fD) := HD.out.turned_ (Turned.of_grown hg1) (fun e => HN.out.2.2 (Option.some.inj e))
 have HH1 : Hid (Rw w1 b 79 (pyC bf s U D P H last frm)) := (hg1.block b HH.out.lt (fun e => HN.out.2.1 (Option.some.inj e))).trans HH.out
 have h10 : w1.cell? ⟨b, 10, none⟩ = some (.map (some D)) := HH1.out.cell 10
 clear hm1 hg1 h11
 go_wp2_with (refine wpList_clear_mp _ nuM rfl _ rfl D n1 fD rfl HD1.out ?_)
 intro w2 hm2 hg2
 have HD2 := Lib.hid hm2
 have HT2 : Hid (Turned (fun q => q = b ∨ q = D ∨ q = P) w w2) := HT1.out.trans (Turned.of_grown hg2) (fun q _ h => .inr (.inl (Option.some.inj h).symm))
 have HP2 : Hid (IsMp peM w2 P 0 (fun _ => none)) := HP1.out.turned_ (Turned.of_grown hg2) (fun e => HN.out.2.2 (Option.some.inj e).symm)
 have HH2 : Hid (Rw w2 b 79 (pyC bf s U D P H last frm)) := (hg2.block b HH1.out.lt (fun e => HN.out.1 (Option.some.inj e))).trans HH1.out
 have c15 : w2.cell? ⟨b, 15, none⟩ = some (.int .i64 (frm : Nat)) := HH2.out.cell 15
 have f15 : w2.frozen? ⟨b, 15, none⟩ = false := HH2.out.frozen 15
 obtain ⟨w3, hw3⟩ : ∃ w3, w2.setCell ⟨b, 15, none⟩ (.int .i64 2) = w3 := ⟨_, rfl⟩
 have HW3 := Lib.hid hw3
 clear hm2 hg2 h10
 go_wp2
 have hN := HN.out
 have hg3 : Turned (fun q => q = b) w2 w3 := by rw [← HW3.out]; exact (Turned.refl (fun q => q = b) w2).setCell (p := ⟨b, 15, none⟩) (fun _ => rfl) _
 refine bodyPost_end (results_none rfl _ _ _) rfl ⟨rfl, ?_, ?_, ?_, ?_⟩
 ·rw [← HW3.out]; exact (HH2.out.set 15 (.int .i64 ((2 : Nat) : Int)))
 ·exact HD2.out.turned_ hg3 (fun e => hN.1 e.symm)
 ·exact HP2.out.turned_ hg3 (fun e => hN.2.1 e.symm)
 ·exact HT2.out.trans hg3 (fun q _ h => .inl h)
theorem TurnsP.same (h : PyHas w fp s F b bf U D P H last frm fP fH) (hb : Below w.heap.size w w') : TurnsP fp s F b bf w w' :=
 ⟨fp, ⟨_, _, _, _, _, _, _, _, h.below hb⟩, Fp.Next.refl _ _, (Turned.of_below hb).mono (fun q hq h => absurd hq (by omega))⟩
theorem Pp.ins_mem {l : List Pa.Page} {n : Nat} {x : Pa.Page} : x ∈ Pp.ins l n ↔ x ∈ l ∨ x = ⟨n, 1, 0, []⟩ := by
 unfold Pp.ins
 conv => rhs; rw [← List.takeWhile_append_dropWhile (p := fun x => decide (x.n < n)) (l := l)]
 simp only [List.mem_append, List.mem_cons]
 constructor
 ·rintro (h | h | h)
  ·exact .inl (.inl h)
  ·exact .inr h
  ·exact .inl (.inr h)
 ·rintro ((h | h) | h)
  ·exact .inl h
  ·exact .inr (.inr h)
  ·exact .inr (.inl h)
theorem Pp.ins_rising {l : List Pa.Page} {n : Nat} (h : Pa.Rising l) (hn : ∀ x ∈ l, x.n ≠ n) : Pa.Rising (Pp.ins l n) := by
 induction l with
 | nil => exact List.pairwise_singleton _ _
 | cons y l ih =>
  obtain ⟨h1, h2⟩ := List.pairwise_cons.1 h
  have ih2 := ih h2 (fun x hx => hn x (by simp [hx]))
  by_cases hy : y.n < n
  ·have e : Pp.ins (y :: l) n = y :: Pp.ins l n := by
    unfold Pp.ins
    rw [List.takeWhile_cons_of_pos (by simpa using hy), List.dropWhile_cons_of_pos (by simpa using hy)]
    rfl
   rw [e]
   refine List.pairwise_cons.2 ⟨fun x hx => ?_, ih2⟩
   rcases Pp.ins_mem.1 hx with hx | rfl
   ·exact h1 x hx
   ·exact hy
  ·have e : Pp.ins (y :: l) n = ⟨n, 1, 0, []⟩ :: y :: l := by
    unfold Pp.ins
    rw [List.takeWhile_cons_of_neg (by simpa using hy), List.dropWhile_cons_of_neg (by simpa using hy)]
    rfl
   rw [e]
   have h3 : n < y.n := by have := hn y (by simp); omega
   refine List.pairwise_cons.2 ⟨fun x hx => ?_, h⟩
   rcases List.mem_cons.1 hx with rfl | hx
   ·exact h3
   ·exact Nat.lt_trans h3 (h1 x hx)
theorem Pa.find_some {l : List Pa.Page} {n : Int} : (Pa.find l n).isSome ↔ ∃ x ∈ l, (x.n : Int) = n := by
 unfold Pa.find
 cases hq : Pa.idx l n with
 | none =>
  simp only [Option.bind_none, Option.isSome_none, Bool.false_eq_true, false_iff]
  unfold Pa.idx at hq
  rw [List.findIdx?_eq_none_iff] at hq
  rintro ⟨x, hx, hn⟩
  simpa [hn] using hq x hx
 | some i =>
  obtain ⟨x, hx, hxn⟩ := Pa.idx_lt hq
  simp only [Option.bind_some, hx, Option.isSome_some, true_iff]
  exact ⟨x, List.mem_of_getElem? hx, hxn⟩
set_option maxHeartbeats 2000000 in
set_option maxRecDepth 100000 in
theorem ppuse_any (n : Int) (h : PPager w f s F b bf) (hn : I64 n) : Calls Tryz.prog 30 #[.pointer (some ⟨b, 0, none⟩), .int .i64 n] w (fun e w' => e = .returned (.int .i64 ((Pp.useE s n).2 : Nat)) ∧ TurnsP f (Pp.useE s n).1 F b bf w w') := by
 obtain ⟨U, D, P, H, last, frm, fP, fH, h⟩ := h
 have CM := Lib.hid (pymade_any (h.cell rfl))
 have HH := Lib.hid h
 have h4 : w.cell? ⟨b, 4, none⟩ = some (.int .i64 s.root.pages) := h.cell rfl
 obtain ⟨pg, hpg⟩ : ∃ p, s.root.pages = p := ⟨_, rfl⟩
 by_cases h2 : n < 2 ∨ pg ≤ n
 ·have HE : Hid (Pp.useE s n = (s, 2)) := by unfold Hid Pp.useE; rw [hpg]; exact if_pos h2
  rw [HE.out]
  rw [hpg] at h4
  have HT := Lib.hid (TurnsP.same h (Below.refl w.heap.size w))
  clear h HE hpg
  by_cases h1 : n < 2
  ·have hd1 : decide (n < 2) = true := decide_eq_true h1
   go_enter Tryz.func30, Tryz.ntmps30
   go_wp2_with fail
   refine CM.out.mono ?_
   rintro e w1 ⟨rfl, rfl⟩
   clear CM
   go_wp2
   go_ret
   exact ⟨rfl, HT.out⟩
  ·have hd1 : decide (n < 2) = false := decide_eq_false h1
   have h3 : pg ≤ n := h2.resolve_left h1
   have hd3 : decide (pg ≤ n) = true := decide_eq_true h3
   clear h2
   go_enter Tryz.func30, Tryz.ntmps30
   go_wp2_with fail
   refine CM.out.mono ?_
   rintro e w1 ⟨rfl, rfl⟩
   clear CM
   go_wp2
   go_ret
   exact ⟨rfl, HT.out⟩
 ·have h2l : ¬ n < 2 := fun h => h2 (.inl h)
  have h2r : ¬ pg ≤ n := fun h => h2 (.inr h)
  have hd1 : decide (n < 2) = false := decide_eq_false h2l
  have hd3 : decide (pg ≤ n) = false := decide_eq_false h2r
  have CF := Lib.hid (pyisFree_any h n hn)
  have HPG := Lib.hid hpg
  have HE0 : Hid (Pp.useE s n = match Pa.find s.l n with | some _ => (s, 8) | none => ({ s with l := Pp.ins s.l n.toNat }, 0)) := by unfold Hid Pp.useE; rw [hpg]; exact if_neg h2
  rw [hpg] at h4
  cases hf : Pa.find s.l n with
  | some x =>
   have HE : Hid (Pp.useE s n = (s, 8)) := by have := HE0.out; rw [hf] at this; exact this
   rw [HE.out]
   rw [hf] at CF
   clear h HE HE0 hpg h2 hf
   go_enter Tryz.func30, Tryz.ntmps30
   go_wp2_with fail
   refine CM.out.mono ?_
   rintro e w1 ⟨rfl, rfl⟩
   clear CM
   go_wp2_with fail
   refine CF.out.mono ?_
   rintro e w2 ⟨rfl, b2⟩
   clear CF
   go_wp2
   go_ret
   exact ⟨rfl, TurnsP.same HH.out b2⟩
  | none =>
   have HE : Hid (Pp.useE s n = ({ s with l := Pp.ins s.l n.toNat }, 0)) := by have := HE0.out; rw [hf] at this; exact this
   rw [HE.out]
   rw [hf] at CF
   have HF : Hid (∀ x ∈ s.l, (x.n : Int) ≠ n) := fun x hx he => by
    have := Pa.find_some.2 ⟨x, hx, he⟩
    rw [hf] at this; cases this
   have HPM : Hid (s.root.pages ≤ 65536) := h.sound.root.2.2.2.1
   have hok : nuM.ok n := i64_ok hn
   clear h HE HE0 hpg h2 hf
   go_enter Tryz.func30, Tryz.ntmps30
   go_wp2_with fail
   refine CM.out.mono ?_
   rintro e w1 ⟨rfl, rfl⟩
   clear CM
   go_wp2_with fail
   refine CF.out.mono ?_
   rintro e w2 ⟨rfl, b2⟩
   have HH2 := Lib.hid (HH.out.below b2)
   have HB2 := Lib.hid b2
   have h9 : w2.cell? ⟨b, 9, none⟩ = some (.map (some U)) := HH2.out.cell rfl
   clear CF b2 h4
   go_wp2_with (at_mapUpdate; refine wpList_mapUpdate_mp _ nuM rfl _ _ _ rfl U 65536 _ rfl HH2.out.used (by simp only [maxLen]; omega) n rfl hok () rfl ?_)
   intro w3 hm hg
   have HM3 := Lib.hid hm
   have HG3 := Lib.hid hg
   clear hm hg h9
   go_wp2
   go_ret
   refine ⟨rfl, ?_⟩
   have h := HH2.out
   have hF := HF.out
   have hpm := HPM.out
   have hpg := HPG.out
   obtain ⟨m, rfl⟩ : ∃ m : Nat, n = (m : Int) := ⟨n.toNat, by omega⟩
   rw [Int.toNat_natCast]
   have hmem : ∀ x, x ∈ Pp.ins s.l m ↔ x ∈ s.l ∨ x = ⟨m, 1, 0, []⟩ := fun x => Pp.ins_mem
   have hf2 : ∀ x ∈ Pp.ins s.l m, 2 ≤ x.n ∧ x.n < 65536 ∧ (x.state = 1 ∨ x.state = 2 ∨ x.state = 3) := fun x hx => by
    rcases (hmem x).1 hx with hx | rfl
    ·exact h.sound.from2 x hx
    ·exact ⟨by show 2 ≤ m; omega, by show m < 65536; omega, .inl rfl⟩
   have hT : Turned (fun q => q = U) w2 w3 := (Turned.of_grown HG3.out).mono (fun q _ h => (Option.some.inj h).symm)
   have hT' : Turned f.M w2 w3 := hT.mono (fun q _ hq => by subst hq; exact h.ms.2.1)
   have hsb := h.sb
   have hsu := h.su
   have he : (fun k => if k = (m : Int) then some () else Pp.usedF s.l k) = Pp.usedF (Pp.ins s.l m) := Pp.unit_ext (fun k => by
    rw [Pp.usedF_some]
    by_cases hk : k = (m : Int)
    ·rw [if_pos hk]
     exact ⟨fun _ => ⟨⟨m, 1, 0, []⟩, (hmem _).2 (.inr rfl), hk.symm, by simp⟩, fun _ => rfl⟩
    ·rw [if_neg hk, Pp.usedF_some]
     constructor
     ·rintro ⟨x, hx, h1, h2⟩
      exact ⟨x, (hmem x).2 (.inl hx), h1, h2⟩
     ·rintro ⟨x, hx, h1, h2⟩
      rcases (hmem x).1 hx with hx | rfl
      ·exact ⟨x, hx, h1, h2⟩
      ·exact absurd h1.symm hk)
   have hd : Pp.dropF (Pp.ins s.l m) = Pp.dropF s.l := Pp.unit_ext (fun k => by
    rw [Pp.dropF_some, Pp.dropF_some]
    constructor
    ·rintro ⟨x, hx, h1, h2⟩
     rcases (hmem x).1 hx with hx | rfl
     ·exact ⟨x, hx, h1, h2⟩
     ·simp at h2
    ·rintro ⟨x, hx, h1, h2⟩
     exact ⟨x, (hmem x).2 (.inl hx), h1, h2⟩)
   have hused : IsMp nuM w3 U 65536 (Pp.usedF (Pp.ins s.l m)) := by
    have := HM3.out
    rw [he] at this
    exact this.tight nuM_ok nu_ok (Pp.small_used hf2)
   have hnew := h.make f.R (fun _ h => h) (fun k hk => ⟨(h.r k hk).1, Nat.lt_of_lt_of_le (h.r k hk).2 hT.size⟩) hT' ((hT.block b h.head.lt (by omega)).trans h.head) hused (by rw [hd]; exact h.drop.turned_ hT (by omega)) (h.pend.turned_ hT (by omega)) (h.hand.turned_ hT (by omega))
    (fun k c hc => by
     obtain ⟨x, a1, a2, a3, a4⟩ := h.hpend k c hc
     exact ⟨x, (hmem x).2 (.inl a1), a2, a3, a4.turned hT' (fun q hq hm => (h.r q hq).1 hm)⟩)
    (fun x hx hs => by
     rcases (hmem x).1 hx with hx | rfl
     ·exact h.there x hx hs
     ·simp at hs)
    (fun x hx hs => ⟨x, (hmem x).2 (.inl hx), rfl, hs⟩) h.from2 (fun k h1 h2 => by
     obtain ⟨x, hx, hn⟩ := h.full k h1 h2
     exact ⟨x, (hmem x).2 (.inl hx), hn⟩) (Pp.ins_rising h.sound.rise (fun x hx e => hF x hx (by omega))) hf2
   exact ⟨f, ⟨_, _, _, _, _, _, _, _, hnew⟩, Fp.Next.refl _ _, ((Turned.of_below HB2.out).mono (G := f.M) (fun q hq h => absurd hq (by omega))).trans hT' (fun _ _ h => h)⟩
end
end Go.Proofs.YtiafeniflkikeaaGreat
namespace Go.Proofs.YtiafeniflkikeaaGreat
open Go.RowKit
set_option linter.unusedVariables false
def Pp.lessM {β : Type} (fD : Int → Option Unit) (L : Int → Bool) (f : Int → Option β) (k : Int) : Option β := if ((fD k).isSome && !L k) = true then none else f k
theorem Pp.lessM_start {β : Type} (fD : Int → Option Unit) (f : Int → Option β) : Pp.lessM fD (fun x => (fD x).isSome) f = f := by
 funext k
 unfold Pp.lessM
 rw [if_neg (by simp only [Bool.and_not_self]; simp)]
theorem Pp.lessM_step {β : Type} {fD : Int → Option Unit} {L : Int → Bool} {f : Int → Option β} {x : Int} (hx : (fD x).isSome) : (fun k => if k = x then none else Pp.lessM fD L f k) = Pp.lessM fD (fun z => L z && !decide (z = x)) f := by
 funext k
 unfold Pp.lessM
 by_cases h : k = x
 ·subst h
  simp [hx]
 ·simp [h]
theorem Pp.lessM_used {l : List Pa.Page} {L : Int → Bool} (hr : Pa.Rising l) (h2 : ∀ x ∈ l, 2 ≤ x.n ∧ x.n < 65536 ∧ (x.state = 1 ∨ x.state = 2 ∨ x.state = 3)) (hl : ∀ k : Int, 0 ≤ k → k < 65536 → L k = false) (k : Int) :
  (Pp.lessM (Pp.dropF l) L (Pp.usedF l) k).isSome ↔ ∃ x ∈ l, (x.n : Int) = k ∧ x.state = 1 := by
 have hd := Pp.dropF_some (l := l) (k := k)
 have hu := Pp.usedF_some (l := l) (k := k)
 unfold Pp.lessM
 constructor
 ·intro h
  split at h
  ·cases h
  ·rename_i hc
   obtain ⟨x, hx, hn, hs⟩ := hu.1 h
   have hx2 := h2 x hx
   refine ⟨x, hx, hn, ?_⟩
   rcases hx2.2.2 with h3 | h3 | h3
   ·exact h3
   ·exact absurd h3 hs
   ·exact absurd (by rw [hd.2 ⟨x, hx, hn, h3⟩, hl k (by omega) (by omega)]; rfl) hc
 ·rintro ⟨x, hx, hn, hs⟩
  rw [if_neg]
  ·exact hu.2 ⟨x, hx, hn, by omega⟩
  ·intro hc
   have h3 : (Pp.dropF l k).isSome = true := by
    cases hq : (Pp.dropF l k).isSome
    ·rw [hq] at hc; cases hc
    ·rfl
   obtain ⟨y, hy, hyn, hys⟩ := hd.1 h3
   have := Pp.rising_inj hr hx hy (by omega)
   subst this
   omega
theorem Pp.lessM_hand {l : List Pa.Page} {L : Int → Bool} {fH : Int → Option RawH} (hsm : Pp.Small fH) (hl : ∀ k : Int, 0 ≤ k → k < 65536 → L k = false) (k : Int) (c : RawH) (h : Pp.lessM (Pp.dropF l) L fH k = some c) : fH k = some c ∧ Pp.dropF l k = none := by
 unfold Pp.lessM at h
 split at h
 ·cases h
 ·rename_i hc
  refine ⟨h, ?_⟩
  have := hsm k c h
  rw [hl k this.1 this.2] at hc
  cases hq : Pp.dropF l k with
  | none => rfl
  | some u => rw [hq] at hc; exact absurd rfl hc
theorem Pp.lessM_cnt {fD : Int → Option Unit} {L : Int → Bool} {fH : Int → Option RawH} : Pp.cnt 65536 (Pp.lessM fD L fH) ≤ Pp.cnt 65536 fH := Pp.cnt_mono (fun k _ h => by
 unfold Pp.lessM at h
 split at h
 ·cases h
 ·exact h)
section
variable {w : World} {b bf U D P H last frm : Nat} {s : Pp.S}
theorem Rw.root (h : Rw w b 79 (pyC bf s U D P H last frm)) (r : Rt.Root) : Rw (w.setCells b 2 (rtC r).toList) b 79 (pyC bf { s with root := r } U D P H last frm) := by
 have h7 := ((((((h.set 2 (.int .u64 (r.seq : Nat))).set 3 (.int .i64 r.page)).set 4 (.int .i64 r.pages)).set 5 (.int .u64 (r.lsn : Nat))).set 6 (.int .u64 (r.next : Nat))).set 7 (.int .i64 r.shard)).set 8 (.int .i64 r.tail)
 unfold pyC at h7 ⊢
 simp only [zD, zF, zE] at h7
 unfold rtC
 exact h7
theorem turned_setCells {G : Nat → Prop} {b : Nat} (hb : G b) {w : World} : ∀ (vs : List Value) (o : Nat) (w' : World), Turned G w w' → Turned G w (w'.setCells b o vs)
 | [], _, _, h => h
 | v :: vs, o, w', h => turned_setCells hb vs (o + 1) _ (h.setCell (p := ⟨b, o, none⟩) (fun _ => hb) v)
theorem Rw.there_ {c : Array Value} {t : TypeId} (h : Rw w b t c) {o n : Nat} (hn : o + n ≤ c.size) : w.there b o n := fun j hj => by
 refine ⟨?_, h.frozen _⟩
 rw [h.cell (o + j), Array.getElem?_eq_getElem (by omega)]
 rfl
end
section
variable {w : World} {fp : Fp} {s : Pp.S} {F : List Nat} {b bf U D P H last frm : Nat} {fP : Int → Option RawU} {fH : Int → Option RawH}
def IsSettled (fp : Fp) (b bf U D P H last : Nat) (s : Pp.S) (fP : Int → Option RawU) (fH : Int → Option RawH) (r : Rt.Root) (w : World) (e : Ending) (w' : World) : Prop :=
 e = .returned (.tuple #[]) ∧ ∃ (last' : Nat) (fU : Int → Option Unit) (fN : Int → Option RawH), last' ≤ last + 65536 ∧ Rw w' b 79 (pyC bf { s with root := r } U D P H last' 2) ∧ IsMp nuM w' U 65536 fU ∧ (∀ k : Int, (fU k).isSome ↔ ∃ x ∈ s.l, (x.n : Int) = k ∧ x.state ≠ 3) ∧
  IsMp nuM w' D 0 (fun _ => none) ∧ IsMp peM w' P 0 (fun _ => none) ∧ IsMp haM w' H 65536 fN ∧ (∀ k c, fN k = some c → c.turn ≤ (last' : Int) ∧ ((∃ u, fP k = some u ∧ c.u = u) ∨ (fH k = some c ∧ Pp.dropF s.l k = none))) ∧ Pp.cnt 65536 fN ≤ s.cache ∧ Turned fp.M w w'
def Blk (b U D P H : Nat) (k : Nat) : Prop := k = b ∨ k = U ∨ k = D ∨ k = P ∨ k = H
set_option maxHeartbeats 4000000 in
set_option maxRecDepth 100000 in
theorem pysettle_any (h : PyHas w fp s F b bf U D P H last frm fP fH) (r : Rt.Root) (htn : s.turns ≤ 1099511627776) :
  Calls Tryz.prog 68 #[.pointer (some ⟨b, 0, none⟩), .agg (rtC r)] w (IsSettled fp b bf U D P H last s fP fH r w) := by
 have hszC : (Tryz.prog.info? 34).map (·.size) = some (rtC r).size := rt_size
 have honeC : (rtC r).all (·.oneCell') = true := rtC_one _
 have hsz7 : (rtC r).size = 7 := rfl
 obtain ⟨C, hC⟩ : ∃ C, rtC r = C := ⟨_, rfl⟩
 rw [hC] at hszC honeC hsz7 ⊢
 obtain ⟨X, hX⟩ : ∃ X, w.alloc (.cells C 34) = X := ⟨_, rfl⟩
 have hbX : Below w.heap.size w X := by rw [← hX]; exact (Below.refl _ _).alloc (Nat.le_refl _) _
 have HXR : Hid (Rw X w.heap.size 34 C) := by unfold Hid; rw [← hX]; exact Rw.new w _ _
 have HBX := Lib.hid hbX
 have HHX := Lib.hid (h.below hbX)
 have HH := Lib.hid h
 have HSU := Lib.hid (Pp.small_used h.sound.from2)
 have HSD := Lib.hid (Pp.small_drop h.sound.from2)
 have HSH := Lib.hid h.small_hand
 have h10 : X.cell? ⟨b, 10, none⟩ = some (.map (some D)) := HHX.out.cell rfl
 clear h
 go_enter Tryz.func68, Tryz.ntmps68
 go_wp2_with (at_range; refine wpList_range_mp _ nuM rfl _ rfl D 65536 (Pp.dropF s.l) rfl HHX.out.drop ?_; intro w1 cnt0 hR _ hg hsz)
 go_frame
 have HR0 := Lib.hid hR
 have hXw : w.heap.size < X.heap.size := HXR.out.lt
 have HB1 : Hid (Below X.heap.size X w1) := (Below.refl _ _).grown hg (Nat.le_refl _) (fun j hj => by cases hj)
 have HH1 := Lib.hid (HHX.out.below HB1.out)
 have HUH1 := Lib.hid (And.intro HH1.out.used HH1.out.hand)
 have hms := HH.out.ms
 have hlts := HH.out.lts
 have HLT := Lib.hid (And.intro hlts hXw)
 have HNE := Lib.hid (And.intro HH.out.sb (And.intro HH.out.su (And.intro HH.out.sd HH.out.sp)))
 clear hR hg hsz h10 hXw hlts hms hX
 go_loopw [] (fun wr => ∃ (L : Int → Bool) (cnt : Nat), Hid (IsRg nuM wr D X.heap.size 65536 (Pp.dropF s.l) L cnt) ∧ Hid (IsMp nuM wr U 65536 (Pp.lessM (Pp.dropF s.l) L (Pp.usedF s.l))) ∧ Hid (IsMp haM wr H 65536 (Pp.lessM (Pp.dropF s.l) L fH)) ∧ Hid (Turned (fun k => k = U ∨ k = H ∨ k = X.heap.size) w1 wr)) (fun wr => wr.rangeLeft D X.heap.size)
 case atStart => exact ⟨_, cnt0, HR0.out, by unfold Hid; rw [Pp.lessM_start]; exact HUH1.out.1, by unfold Hid; rw [Pp.lessM_start]; exact HUH1.out.2, Turned.refl _ _⟩
 case round =>
  obtain ⟨L, cnt, HRG, HU, HHD, HT⟩ := hrel
  clear HR0
  go_wp2_with (at_next; refine wpList_next_nu _ rfl _ rfl D X.heap.size 65536 _ L cnt rfl HRG.out ?_ ?_)
  ·intro hl0
   rename World => wa
   have hl1 : ∀ k : Int, 0 ≤ k → k < 65536 → L k = false := fun k h1 h2 => hl0 k (i64_ok (by unfold I64; omega))
   obtain ⟨fA, hfA⟩ : ∃ fA, Pp.lessM (Pp.dropF s.l) L (Pp.usedF s.l) = fA := ⟨_, rfl⟩
   obtain ⟨fB, hfB⟩ : ∃ fB, Pp.lessM (Pp.dropF s.l) L fH = fB := ⟨_, rfl⟩
   have HFA : Hid (∀ k : Int, (fA k).isSome ↔ ∃ x ∈ s.l, (x.n : Int) = k ∧ x.state = 1) := by rw [← hfA]; exact Pp.lessM_used HH.out.sound.rise HH.out.sound.from2 hl1
   have HFB : Hid (∀ k c, fB k = some c → fH k = some c ∧ Pp.dropF s.l k = none) := by rw [← hfB]; exact Pp.lessM_hand HSH.out hl1
   have HFC : Hid (Pp.cnt 65536 fB ≤ s.cache) := by unfold Hid; rw [← hfB]; exact Nat.le_trans Pp.lessM_cnt HH.out.few
   rw [hfA] at HU
   rw [hfB] at HHD
   have hlt := HLT.out
   have hne := HNE.out
   have HR3 : Hid (Rw wa b 79 (pyC bf s U D P H last frm)) := (HT.out.block b HH1.out.head.lt (by omega)).trans HH1.out.head
   have HP3 : Hid (IsMp peM wa P 65536 fP) := HH1.out.pend.turned_ HT.out (by omega)
   have HXR3 : Hid (Rw wa w.heap.size 34 C) := (HT.out.block _ (HXR.out.below HB1.out HXR.out.lt).lt (by omega)).trans (HXR.out.below HB1.out HXR.out.lt)
   have HD3 : Hid (IsMp nuM wa D 65536 (Pp.dropF s.l)) := HH1.out.drop.turned_ HT.out (by omega)
   have CP := Lib.hid (pypendingR_any (l := s.l) (HR3.out.cell 0) (HR3.out.cell 11) HP3.out HH.out.small_pend HH.out.sound.rise HH.out.sound.from2 HH.out.pend_iff)
   obtain ⟨pl, hpl⟩ : ∃ pl, Pp.pend s.l = pl := ⟨_, rfl⟩
   have hnum := Pp.numbers_pend s.l
   rw [hpl] at hnum
   rw [hnum] at CP
   have hlen : pl.length ≤ 65536 := by
    have h1 := Pp.rising_few HH.out.sound.rise (a := 2) (c := 65536) (fun x hx => by have := HH.out.sound.from2 x hx; omega)
    have h2 : pl.length ≤ s.l.length := by rw [← hpl]; exact List.length_filter_le _ _
    omega
   have HPX : Hid (∀ x, x ∈ pl ↔ x ∈ s.l ∧ x.state = 2) := fun x => by
    rw [← hpl]
    unfold Pp.pend
    rw [List.mem_filter]
    simp
   have HLEN := Lib.hid hlen
   have HTW : Hid (Turned (fun k => Blk b U D P H k ∨ w.heap.size ≤ k) w wa) := by
    have t1 : Turned (fun k => Blk b U D P H k ∨ w.heap.size ≤ k) w X := (Turned.of_below HBX.out).mono (fun q _ h => .inr h)
    have t2 : Turned (fun k => Blk b U D P H k ∨ w.heap.size ≤ k) X w1 := (Turned.of_below HB1.out).mono (fun q hq h => absurd hq (by omega))
    have t3 : Turned (fun k => Blk b U D P H k ∨ w.heap.size ≤ k) w1 wa := HT.out.mono (fun q hq h => by unfold Blk; omega)
    exact (t1.trans t2 (fun _ _ h => h)).trans t3 (fun _ _ h => h)
   clear hl0 hl1 hfA hfB hlt hne HRG HT hpl hnum hlen
   go_wp2_with fail
   refine CP.out.mono ?_
   rintro e w2 ⟨A, c, rfl, ho, b2⟩
   rw [List.length_map] at ho ⊢
   have HO := Lib.hid ho
   have HB2 := Lib.hid b2
   have HR4 := Lib.hid (HR3.out.below b2 HR3.out.lt)
   have HXR4 := Lib.hid (HXR3.out.below b2 HXR3.out.lt)
   have HP4 := Lib.hid (HP3.out.below_ b2 HP3.out.lt_)
   have HD4 := Lib.hid (HD3.out.below_ b2 HD3.out.lt_)
   have HU4 := Lib.hid (HU.out.below_ b2 HU.out.lt_)
   have HH4 := Lib.hid (HHD.out.below_ b2 HHD.out.lt_)
   have HSW := Lib.hid HTW.out.size
   have HSB : Hid (Pp.Small fB) := fun k c hc => HSH.out k c (HFB.out k c hc).1
   clear CP ho b2
   go_wp2
   go_loopw [29] (fun i wr => ∃ (k : Nat) (fU : Int → Option Unit) (fN : Int → Option RawH), i = .int .i64 (k : Nat) ∧ k ≤ pl.length ∧ Hid (Rw wr b 79 (pyC bf s U D P H (last + k) frm)) ∧ Hid (IsMp nuM wr U 65536 fU) ∧ Hid (∀ j : Int, (fU j).isSome ↔ (fA j).isSome ∨ ∃ x ∈ pl.take k, (x.n : Int) = j) ∧ Hid (IsMp haM wr H 65536 fN) ∧
    Hid (∀ j c, fN j = some c → c.turn ≤ ((last + k : Nat) : Int) ∧ ((∃ u, fP j = some u ∧ c.u = u) ∨ fB j = some c)) ∧ Hid (Pp.cnt 65536 fN ≤ s.cache) ∧ Hid (Turned (fun q => q = b ∨ q = U ∨ q = H) w2 wr)) (fun i _ => pl.length - (intOf i).toNat)
   case atStart => exact ⟨0, fA, fB, rfl, Nat.zero_le _, HR4.out, HU4.out, fun j => by simp, HH4.out, fun j c hc => ⟨(HH.out.hhand j c (HFB.out j c hc).1).2.1, .inr hc⟩, HFC.out, Turned.refl _ _⟩
   case round =>
    obtain ⟨k, fU, fN, rfl, hk, HRK, HUK, HUI, HHK, HHI, HCK, HTK⟩ := hrel
    have hlt' := HLT.out
    have hne := HNE.out
    have hsw := HSW.out
    by_cases hlt : k < pl.length
    ·have hki : (k : Int) < (pl.length : Int) := by omega
     have hk0 : (0 : Int) ≤ (k : Int) := by omega
     have wk : IntKind.i64.wrap ((k : Int) + 1) = (k : Int) + 1 := by rw [IntKind.wrap_i64]; have := HLEN.out; omega
     obtain ⟨x, hx⟩ : ∃ x, pl[k]? = some x := ⟨pl[k], List.getElem?_eq_getElem hlt⟩
     have hOr := HO.out.turned_ HTK.out (fun q hq hf => by have := (HO.out.lt_ q hq).1; omega)
     obtain ⟨g, off, v, rfl, hg1, hv, hq, hcell⟩ := hOr.form_.int_ (k := k) (by rw [List.length_map]; exact hlt)
     rw [List.getElem?_map, hx, Option.map_some, Option.some.injEq] at hq
     subst hq
     obtain ⟨hxl, hx2⟩ := (HPX.out x).1 (List.mem_of_getElem? hx)
     have hx65 := HH.out.sound.from2 x hxl
     have h9 : wr.cell? ⟨b, 9, none⟩ = some (.map (some U)) := HRK.out.cell 9
     have hok : nuM.ok (x.n : Int) := i64_ok hv
     have HXX := Lib.hid (And.intro hx (And.intro hxl (And.intro hx2 hx65)))
     clear hOr hg1 hx hxl hx2 hx65 hlt' hne hsw
     go_wp2_with (at_mapUpdate; refine wpList_mapUpdate_mp _ nuM rfl _ _ _ rfl U 65536 _ rfl HUK.out (by simp only [maxLen]; omega) (x.n : Int) rfl hok () rfl ?_; intro w3 hu3 g3)
     have hlt' := HLT.out
     have hne := HNE.out
     have hsw := HSW.out
     have hT3 : Turned (fun q => q = b ∨ q = U ∨ q = H) w2 w3 := HTK.out.trans (Turned.of_grown g3) (fun q _ h => .inr (.inl (Option.some.inj h).symm))
     have hsU : Pp.Small (fun j => if j = (x.n : Int) then some () else fU j) := fun j c hc => by
      have hxs := HXX.out.2.2.2
      by_cases e : j = (x.n : Int)
      ·omega
      ·simp only [if_neg e] at hc
       rcases (HUI.out j).1 (by rw [hc]; rfl) with h | ⟨y, hy, hyn⟩
       ·obtain ⟨y, hy, hyn, _⟩ := (HFA.out j).1 h
        have := HH.out.sound.from2 y hy; omega
       ·have := HH.out.sound.from2 y ((HPX.out y).1 (List.mem_of_mem_take hy)).1; omega
     have HU3 := Lib.hid (hu3.tight nuM_ok nu_ok hsU)
     have hdr : Below w3.heap.size w3 w3.drew := below_drewN (Below.refl _ _) 1
     obtain ⟨Y, hY⟩ : ∃ Y, w3.drew = Y := ⟨_, rfl⟩
     rw [hY] at hdr
     have hR3 : Rw w3 b 79 (pyC bf s U D P H (last + k) frm) := (g3.block b HRK.out.lt (fun e => by have := Option.some.inj e; omega)).trans HRK.out
     have hTY : Turned (fun q => q = b ∨ q = U ∨ q = H) w2 Y := hT3.trans (Turned.of_below hdr) (fun q hq h => by have := hT3.size; omega)
     have HTY := Lib.hid hTY
     have HRY : Hid (Rw Y b 79 (pyC bf s U D P H (last + k) frm)) := hR3.below hdr hR3.lt
     have HPY : Hid (IsMp peM Y P 65536 fP) := HP4.out.turned_ hTY (by omega)
     have HHY : Hid (IsMp haM Y H 65536 fN) := (HHK.out.turned_ (Turned.of_grown g3) (fun e => by have := Option.some.inj e; omega)).below_ hdr (by have := HHK.out.lt_; have := g3.size; omega)
     have HUY : Hid (IsMp nuM Y U 65536 (fun j => if j = (x.n : Int) then some () else fU j)) := HU3.out.below_ hdr HU3.out.lt_
     have hsN : Pp.Small fN := fun j c hc => by
      rcases (HHI.out j c hc).2 with ⟨u, hu, _⟩ | h
      ·exact HH.out.small_pend j u hu
      ·exact HSB.out j c h
     obtain ⟨⟨kd, ⟨a1, a2, a3⟩⟩, hu⟩ := Option.isSome_iff_exists.1 (HH.out.there x HXX.out.2.1 HXX.out.2.2.1)
     have HUX := Lib.hid hu
     have hokp : peM.ok (x.n : Int) := i64_ok (by have := HXX.out.2.2.2; unfold I64; omega)
     have HC : Hid (∀ w', Below Y.heap.size Y w' → w'.cell? ⟨b, 11, none⟩ = some (.map (some P)) ∧ (Instr.lookup 74 (.map (some P)) (.int .i64 (x.n : Int)) false).run Tryz.prog w' = .ok (.agg #[.int .u8 (kd : Nat), .slice a1 a2 a3]) w') := fun w' hw' => by
      refine ⟨(HRY.out.below hw' HRY.out.lt).cell 11, ?_⟩
      have h := (HPY.out.below_ hw' HPY.out.lt_).look (x := (x.n : Int)) hokp
      rw [HUX.out] at h
      exact h
     have CK := Lib.hid (pykeep_any HRY.out HHY.out (by omega) hsN HCK.out HH.out.sound.cache (fun j c hc => (HHI.out j c hc).1) (by have := HH.out.last; have := HLEN.out; omega) x.n HXX.out.2.2.2.2.1 ⟨kd, ⟨a1, a2, a3⟩⟩)
     clear hlt' hne hsw hT3 hsU hu3 hdr hR3 hTY hsN hu hokp g3 h9 hok hcell hv HRK HUK HHK HTK HU3
     go_wp2_with fail
     refine wp_region_m (fun w' => Below Y.heap.size Y w') 10 (by kernel_rfl) ?_
     rw [hY]
     have hH : Below Y.heap.size Y Y := Below.refl _ _
     refine zM (i := 0) (v := ?_) rfl (by kernel_rfl) (fun _ _ _ h => h) hH (Or.inl ⟨by rfl, (by intro w' hSw; have s0 := HC.out w' hSw; go_simp; first | done | with_reducible rfl)⟩) ?_
     try simp only [Act.put, zA, zC, zD, zE, zF]
     refine zM (i := 1) (v := ?_) rfl (by kernel_rfl) (fun _ _ _ h => h) hH (Or.inl ⟨by rfl, (by intro w' hSw; have s0 := HC.out w' hSw; go_simp; first | done | with_reducible rfl)⟩) ?_
     try simp only [Act.put, zA, zB, zC, zD, zE, zF]
     refine zM (i := 2) (v := ?_) rfl (by kernel_rfl) (fun _ _ _ h => h) hH (Or.inl ⟨by rfl, (by intro w' hSw; have s0 := HC.out w' hSw; go_simp; first | done | with_reducible rfl)⟩) ?_
     try simp only [Act.put, zA, zB, zC, zD, zE, zF]
     refine zM (i := 3) (v := ?_) rfl (by kernel_rfl) (fun _ _ _ h => h) hH (Or.inl ⟨by rfl, (by intro w' hSw; have s0 := HC.out w' hSw; go_simp; first | done | with_reducible rfl)⟩) ?_
     try simp only [Act.put, zA, zB, zC, zD, zE, zF]
     refine zM (i := 4) (v := ?_) rfl (by kernel_rfl) (fun _ _ _ h => h) hH (Or.inl ⟨by rfl, (by intro w' hSw; have s0 := HC.out w' hSw; go_simp; first | done | with_reducible rfl)⟩) ?_
     try simp only [Act.put, zA, zB, zC, zD, zE, zF]
     refine zM (i := 5) (v := ?_) rfl (by kernel_rfl) (fun _ _ _ h => h) hH (Or.inl ⟨by rfl, (by intro w' hSw; have s0 := HC.out w' hSw; go_simp; first | done | with_reducible rfl)⟩) ?_
     try simp only [Act.put, zA, zB, zC, zD, zE, zF]
     refine zM (i := 6) (v := ?_) rfl (by kernel_rfl) (fun _ _ _ h => h) hH (Or.inl ⟨by rfl, (by intro w' hSw; have s0 := HC.out w' hSw; go_simp; first | done | with_reducible rfl)⟩) ?_
     try simp only [Act.put, zA, zB, zC, zD, zE, zF]
     refine zM (i := 7) (v := ?_) rfl (by kernel_rfl) (fun _ _ _ h => h) hH (Or.inl ⟨by rfl, (by intro w' hSw; have s0 := HC.out w' hSw; go_simp; first | done | with_reducible rfl)⟩) ?_
     try simp only [Act.put, zA, zB, zC, zD, zE, zF]
     refine zM (i := 8) (v := ?_) rfl (by kernel_rfl) (fun _ _ _ h => h) hH (Or.inl ⟨by rfl, (by intro w' hSw; have s0 := HC.out w' hSw; go_simp; first | done | with_reducible rfl)⟩) ?_
     try simp only [Act.put, zA, zB, zC, zD, zE, zF]
     refine zM (i := 9) (v := ?_) rfl (by kernel_rfl) (fun _ _ _ h => h) hH (Or.inl ⟨by rfl, (by intro w' hSw; have s0 := HC.out w' hSw; go_simp; first | done | with_reducible rfl)⟩) ?_
     try simp only [Act.put, zA, zB, zC, zD, zE, zF]
     refine wpAnyM_next (i := 10) (by kernel_rfl) rfl (fun K hK => ?_)
     go_simp
     refine CK.out.mono ?_
     rintro e w5 ⟨rfl, fM, r1, r2, r3, r4, r5⟩
     refine hK.out _ _ (.inl (Nat.le_refl _)) ?_
     clear hK K CK
     try simp only [Act.put, zA, zB, zC, zD, zE, zF]
     refine wpAnyM_done (by kernel_rfl) ?_ _
     have hlt' := HLT.out
     have hne := HNE.out
     have HE1 := Lib.hid r1
     have HE2 := Lib.hid r2
     have HE3 := Lib.hid r3
     have HE4 := Lib.hid r4
     have HU5 := Lib.hid (HUY.out.turned_ r5 (by omega))
     have HT5 := Lib.hid (HTY.out.trans r5 (fun q _ h => by omega))
     clear hH r1 r2 r3 r4 r5 hlt' hne hY
     go_wp2
     go_roundw
     case rel =>
      refine ⟨k + 1, _, fM, by go_num, by omega, HE1.out, HU5.out, fun j => ?_, HE2.out, fun j c hc => ?_, HE4.out, HT5.out⟩
      ·rw [take_snoc HXX.out.1]
       by_cases e : j = (x.n : Int)
       ·subst e
        simp
       ·simp only [if_neg e, List.mem_append, List.mem_singleton]
        rw [HUI.out j]
        constructor
        ·rintro (h | ⟨y, hy, hyn⟩)
         ·exact .inl h
         ·exact .inr ⟨y, .inl hy, hyn⟩
        ·rintro (h | ⟨y, hy | hy, hyn⟩)
         ·exact .inl h
         ·exact .inr ⟨y, hy, hyn⟩
         ·subst hy; exact absurd hyn.symm e
      ·rcases HE3.out j c hc with ⟨rfl, rfl⟩ | h
       ·exact ⟨by show ((last + k : Nat) : Int) + 1 ≤ ((last + (k + 1) : Nat) : Int); omega, .inl ⟨_, HUX.out, rfl⟩⟩
       ·obtain ⟨h1, h2⟩ := HHI.out j c h
        exact ⟨by omega, h2⟩
     case measure => simp [intOf]; omega
    ·have hki : ¬ (k : Int) < (pl.length : Int) := by omega
     obtain rfl : k = pl.length := by omega
     have HXE : Hid (Rw wr w.heap.size 34 C) := (HTK.out.block _ HXR4.out.lt (by omega)).trans HXR4.out
     have hth : wr.there b 2 C.size := HRK.out.there_ (by rw [hsz7]; show 2 + 7 ≤ 16; omega)
     obtain ⟨Z, hZ⟩ : ∃ Z, wr.setCells b 2 C.toList = Z := ⟨_, rfl⟩
     have HTZ : Hid (Turned (fun k => k = b) wr Z) := by unfold Hid; rw [← hZ]; exact turned_setCells (G := fun k => k = b) rfl _ _ _ (Turned.refl _ _)
     have HRZ : Hid (Rw Z b 79 (pyC bf { s with root := r } U D P H (last + pl.length) frm)) := by unfold Hid; rw [← hZ, ← hC]; exact HRK.out.root r
     have hDr := HD4.out.turned_ HTK.out (by omega)
     have hPr := HP4.out.turned_ HTK.out (by omega)
     have CB := Lib.hid (pybegin_any (n3 := 0) (fU := fun _ => none) HRZ.out (hDr.turned_ HTZ.out (by omega)) (hPr.turned_ HTZ.out (by omega)) (by omega) (by omega) (by omega))
     have HZE := Lib.hid hZ
     have HUZ : Hid (IsMp nuM Z U 65536 fU) := HUK.out.turned_ HTZ.out (by omega)
     have HHZ : Hid (IsMp haM Z H 65536 fN) := HHK.out.turned_ HTZ.out (by omega)
     clear hDr hPr hZ hlt' hne hsw
     go_wp2_with (first
      | ((with_reducible refine gate_load 34 ?_); refine wpList_load_row rfl 34 _ rfl w.heap.size rfl 34 C (0, 0) _ HXE.out Tryz.underlying34 rfl hszC ?_)
      | ((with_reducible refine gate_store 34 ?_); refine wpList_store_mid rfl 34 _ _ rfl b 2 C rfl rfl hth hszC honeC ?_; rw [HZE.out]))
     refine CB.out.mono ?_
     rintro e w6 ⟨rfl, q1, q2, q3, q4⟩
     have hlt' := HLT.out
     have hne := HNE.out
     have HQ := Lib.hid (And.intro q1 (And.intro q2 q3))
     have HU6 := Lib.hid (HUZ.out.turned_ q4 (by omega))
     have HH6 := Lib.hid (HHZ.out.turned_ q4 (by omega))
     have HT6 : Hid (Turned fp.M w w6) := by
      have t2 : Turned (fun k => Blk b U D P H k ∨ w.heap.size ≤ k) wa w2 := (Turned.of_below HB2.out).mono (fun q hq h => absurd hq (by omega))
      have t3 : Turned (fun k => Blk b U D P H k ∨ w.heap.size ≤ k) w2 wr := HTK.out.mono (fun q hq h => by unfold Blk; omega)
      have t4 : Turned (fun k => Blk b U D P H k ∨ w.heap.size ≤ k) wr Z := HTZ.out.mono (fun q hq h => by unfold Blk; omega)
      have t5 : Turned (fun k => Blk b U D P H k ∨ w.heap.size ≤ k) Z w6 := q4.mono (fun q hq h => by unfold Blk; omega)
      refine ((((HTW.out.trans t2 (fun _ _ h => h)).trans t3 (fun _ _ h => h)).trans t4 (fun _ _ h => h)).trans t5 (fun _ _ h => h)).mono (fun q hq h => ?_)
      rcases h with h | h
      ·exact (HH.out.m q).2 h
      ·omega
     clear CB q1 q2 q3 q4 hlt' hne
     go_wp2
     refine bodyPost_end (results_none rfl _ _ _) rfl ⟨rfl, last + pl.length, fU, fN, by have := HLEN.out; omega, HQ.out.1, HU6.out, fun j => ?_, HQ.out.2.1, HQ.out.2.2, HH6.out, fun j c hc => ?_, HCK.out, HT6.out⟩
     ·rw [HUI.out j, HFA.out j, List.take_length]
      constructor
      ·rintro (⟨x, hx, hn, hs⟩ | ⟨x, hx, hn⟩)
       ·exact ⟨x, hx, hn, by omega⟩
       ·exact ⟨x, ((HPX.out x).1 hx).1, hn, by have := ((HPX.out x).1 hx).2; omega⟩
      ·rintro ⟨x, hx, hn, hs⟩
       rcases (HH.out.sound.from2 x hx).2.2 with h | h | h
       ·exact .inl ⟨x, hx, hn, h⟩
       ·exact .inr ⟨x, (HPX.out x).2 ⟨hx, h⟩, hn⟩
       ·exact absurd h hs
     ·obtain ⟨h1, h2⟩ := HHI.out j c hc
      refine ⟨h1, h2.imp id (fun h => HFB.out j c h)⟩
  ·intro x c w2 cnt1 hx hLx hfx hrg1 hlt hg1 hs1 hen
   have hxs := HSD.out x c hfx
   have HX64 : Hid (I64 x) := by unfold Hid I64; omega
   have HDX : Hid ((Pp.dropF s.l x).isSome) := by unfold Hid; rw [hfx]; rfl
   have hlt' := HLT.out
   have hne := HNE.out
   have hT2 : Turned (fun k => k = U ∨ k = H ∨ k = X.heap.size) w1 w2 := HT.out.trans (Turned.of_grown hg1) (fun k _ h => .inr (.inr (Option.some.inj h).symm))
   have HT2 := Lib.hid hT2
   have HU2 : Hid (IsMp nuM w2 U 65536 (Pp.lessM (Pp.dropF s.l) L (Pp.usedF s.l))) := HU.out.turned_ (Turned.of_grown hg1) (fun e => by have := Option.some.inj e; omega)
   have HH2 : Hid (IsMp haM w2 H 65536 (Pp.lessM (Pp.dropF s.l) L fH)) := HHD.out.turned_ (Turned.of_grown hg1) (fun e => by have := Option.some.inj e; omega)
   have HR2 : Hid (Rw w2 b 79 (pyC bf s U D P H last frm)) := (hT2.block b HH1.out.head.lt (by omega)).trans HH1.out.head
   have h9 : w2.cell? ⟨b, 9, none⟩ = some (.map (some U)) := HR2.out.cell 9
   have HRG1 := Lib.hid hrg1
   have HLE := Lib.hid (And.intro hlt HRG.out.left_eq)
   have hok : nuM.ok x := hx
   clear HU HHD HT HRG hrg1 hlt hg1 hs1 hT2 hxs hfx hlt' hne
   go_wp2_with (refine wpList_delete_mp _ nuM rfl _ _ rfl U 65536 _ rfl HU2.out x rfl hok ?_; intro w3 hu3 g3)
   have hlt' := HLT.out
   have hne := HNE.out
   have HU3 : Hid (IsMp nuM w3 U 65536 (Pp.lessM (Pp.dropF s.l) (fun z => L z && !decide (z = x)) (Pp.usedF s.l))) := by
    unfold Hid; rw [← Pp.lessM_step HDX.out]; exact hu3
   have hT3 := HT2.out.trans (Turned.of_grown g3) (fun k _ h => .inl (Option.some.inj h).symm)
   have HT3 := Lib.hid hT3
   have HH3 : Hid (IsMp haM w3 H 65536 (Pp.lessM (Pp.dropF s.l) L fH)) := HH2.out.turned_ (Turned.of_grown g3) (fun e => by have := Option.some.inj e; omega)
   have HR3 : Hid (Rw w3 b 79 (pyC bf s U D P H last frm)) := (hT3.block b HH1.out.head.lt (by omega)).trans HH1.out.head
   have HRG3 := Lib.hid (HRG1.out.turned_ (Turned.of_grown g3) (fun e => by have := Option.some.inj e; omega) (fun e => by have := Option.some.inj e; omega))
   have CF := Lib.hid (pyforget_any (HR3.out.cell 13) HH3.out x HX64.out)
   clear HU2 HH2 HR2 HRG1 hu3 g3 hT3 HT2 h9 hlt' hne
   go_wp2_with fail
   refine CF.out.mono ?_
   rintro e w4 ⟨rfl, hh4, g4⟩
   have hlt' := HLT.out
   have hne := HNE.out
   have HH4 : Hid (IsMp haM w4 H 65536 (Pp.lessM (Pp.dropF s.l) (fun z => L z && !decide (z = x)) fH)) := by
    unfold Hid; rw [← Pp.lessM_step HDX.out]; exact hh4
   have HU4 := Lib.hid (HU3.out.turned_ (Turned.of_grown g4) (fun e => by have := Option.some.inj e; omega))
   have HT4 := Lib.hid (HT3.out.trans (Turned.of_grown g4) (fun k _ h => .inr (.inl (Option.some.inj h).symm)))
   have HRG4 := Lib.hid (HRG3.out.turned_ (Turned.of_grown g4) (fun e => by have := Option.some.inj e; omega) (fun e => by have := Option.some.inj e; omega))
   clear CF hh4 g4 hlt' hne HU3 HH3 HR3 HT3 HRG3
   go_wp2
   go_roundw
   case rel => exact ⟨_, cnt1, HRG4.out, HU4.out, HH4.out, HT4.out⟩
   case measure => rw [HRG4.out.left_eq, HLE.out.2]; exact HLE.out.1
end
end Go.Proofs.YtiafeniflkikeaaGreat
namespace Go.Proofs.YtiafeniflkikeaaGreat
open Go.RowKit
set_option linter.unusedVariables false
theorem Pa.pages_told {l : List Pa.Page} (hr : Pa.Rising l) (h2 : ∀ x ∈ l, 2 ≤ x.n) : ∀ p : Int, (∀ x ∈ l, p ≤ (x.n : Int) + 1) →
  (l.foldl (fun p x => if x.state = 3 then p else (x.n : Int) + 1) p = p ∨ ∃ x ∈ l, x.state ≠ 3 ∧ l.foldl (fun p x => if x.state = 3 then p else (x.n : Int) + 1) p = (x.n : Int) + 1) ∧
  p ≤ l.foldl (fun p x => if x.state = 3 then p else (x.n : Int) + 1) p ∧ ∀ x ∈ l, x.state ≠ 3 → (x.n : Int) + 1 ≤ l.foldl (fun p x => if x.state = 3 then p else (x.n : Int) + 1) p := by
 induction l with
 | nil => intro p _; simp
 | cons y l ih =>
  intro p hp
  have hr' := (List.pairwise_cons.1 hr)
  have h2' : ∀ x ∈ l, 2 ≤ x.n := fun x hx => h2 x (List.mem_cons_of_mem _ hx)
  rw [List.foldl_cons]
  by_cases hy : y.state = 3
  ·rw [if_pos hy]
   obtain ⟨h1, h3, h4⟩ := ih hr'.2 h2' p (fun x hx => hp x (List.mem_cons_of_mem _ hx))
   refine ⟨?_, h3, ?_⟩
   ·rcases h1 with h1 | ⟨x, hx, h5, h6⟩
    ·exact .inl h1
    ·exact .inr ⟨x, List.mem_cons_of_mem _ hx, h5, h6⟩
   ·intro x hx hs
    rcases List.mem_cons.1 hx with rfl | hx
    ·exact absurd hy hs
    ·exact h4 x hx hs
  ·rw [if_neg hy]
   obtain ⟨h1, h3, h4⟩ := ih hr'.2 h2' ((y.n : Int) + 1) (fun x hx => by have := hr'.1 x hx; omega)
   have hpy := hp y (List.mem_cons_self)
   refine ⟨?_, by omega, ?_⟩
   ·rcases h1 with h1 | ⟨x, hx, h5, h6⟩
    ·exact .inr ⟨y, List.mem_cons_self, hy, h1⟩
    ·exact .inr ⟨x, List.mem_cons_of_mem _ hx, h5, h6⟩
   ·intro x hx hs
    rcases List.mem_cons.1 hx with rfl | hx
    ·exact h3
    ·exact h4 x hx hs
theorem Pa.pages_eq {l : List Pa.Page} (hr : Pa.Rising l) (h2 : ∀ x ∈ l, 2 ≤ x.n) {m : Int} (h1 : 1 ≤ m) (hm : m = 1 ∨ ∃ x ∈ l, x.state ≠ 3 ∧ (x.n : Int) = m) (hl : ∀ x ∈ l, x.state ≠ 3 → (x.n : Int) ≤ m) : m + 1 = Pa.pages l := by
 obtain ⟨a, c, d⟩ := Pa.pages_told hr h2 2 (fun x hx => by have := h2 x hx; omega)
 unfold Pa.pages
 rcases hm with hm | ⟨x, hx, hs, hm⟩
 ·rcases a with a | ⟨y, hy, hs, a⟩
  ·omega
  ·have := hl y hy hs; have := h2 y hy; omega
 ·have hd := d x hx hs
  rcases a with a | ⟨y, hy, hs', a⟩
  ·have := h2 x hx; omega
  ·have := hl y hy hs'; omega
def Pp.most1 (l : List Pa.Page) (L : Int → Bool) (m : Int) : Prop :=
 1 ≤ m ∧ m ≤ 65536 ∧ (m = 1 ∨ ∃ x ∈ l, x.state ≠ 3 ∧ (x.n : Int) = m) ∧ ∀ x ∈ l, x.state = 1 → L x.n = false → (x.n : Int) ≤ m
def Pp.most2 (l : List Pa.Page) (L : Int → Bool) (m : Int) : Prop :=
 1 ≤ m ∧ m ≤ 65536 ∧ (m = 1 ∨ ∃ x ∈ l, x.state ≠ 3 ∧ (x.n : Int) = m) ∧ (∀ x ∈ l, x.state = 1 → (x.n : Int) ≤ m) ∧ ∀ x ∈ l, x.state = 2 → L x.n = false → (x.n : Int) ≤ m
section
variable {w : World} {fp : Fp} {s : Pp.S} {F : List Nat} {b bf U D P H last frm : Nat} {fP : Int → Option RawU} {fH : Int → Option RawH}
set_option maxHeartbeats 2000000 in
set_option maxRecDepth 100000 in
theorem pypages_any (h : PyHas w fp s F b bf U D P H last frm fP fH) : Calls Tryz.prog 64 #[.pointer (some ⟨b, 0, none⟩)] w (fun e w' => e = .returned (.int .i64 (Pa.pages s.l)) ∧ Below w.heap.size w w') := by
 have HP := Lib.hid h
 have h9 : w.cell? ⟨b, 9, none⟩ = some (.map (some U)) := h.cell rfl
 have HSU := Lib.hid (Pp.small_used h.sound.from2)
 have HSP := Lib.hid h.small_pend
 have HS := Lib.hid h.sound
 have HPI := Lib.hid h.pend_iff
 clear h
 go_enter Tryz.func64, Tryz.ntmps64
 go_wp2_with (at_range; refine wpList_range_mp _ nuM rfl _ rfl U 65536 (Pp.usedF s.l) rfl HP.out.used ?_; intro w1 cnt0 hR _ hg hsz)
 go_frame
 have HR0 := Lib.hid hR
 have HB1 : Hid (Below w.heap.size w w1) := (Below.refl _ _).grown hg (Nat.le_refl _) (fun j hj => by cases hj)
 clear hR hg hsz h9
 go_loopw [3] (fun u wr => ∃ (L : Int → Bool) (cnt : Nat) (m : Int), Hid (IsRg nuM wr U w.heap.size 65536 (Pp.usedF s.l) L cnt) ∧ u = .int .i64 m ∧ Hid (Below w.heap.size w wr) ∧ Hid (Pp.most1 s.l L m)) (fun _ wr => wr.rangeLeft U w.heap.size)
 case atStart =>
  refine ⟨_, cnt0, 1, HR0.out, rfl, HB1.out, ⟨by omega, by omega, .inl rfl, fun x hx h1 h2 => ?_⟩⟩
  have := (Pp.usedF_some (l := s.l) (k := x.n)).2 ⟨x, hx, rfl, by omega⟩
  exact absurd this (by simpa using h2)
 case round =>
  obtain ⟨L, cnt, m, HRG, rfl, HBW, HI⟩ := hrel
  clear HR0 HB1
  go_wp2_with (at_next; refine wpList_next_nu _ rfl _ rfl U w.heap.size 65536 _ L cnt rfl HRG.out ?_ ?_)
  ·intro hl0
   have HM1 : Hid (Pp.most2 s.l (fun k => (fP k).isSome) m) := by
    obtain ⟨i1, i2, i3, i4⟩ := HI.out
    refine ⟨i1, i2, i3, fun x hx h1 => i4 x hx h1 (hl0 x.n (i64_ok (by have := HS.out.from2 x hx; unfold I64; omega))), fun x hx h1 h2 => ?_⟩
    have := (HPI.out x.n).2 ⟨x, hx, rfl, h1⟩
    exact absurd this (by simpa using h2)
   rename World => wa
   have HP2 := Lib.hid (HP.out.below HBW.out)
   have h11 : wa.cell? ⟨b, 11, none⟩ = some (.map (some P)) := HP2.out.cell rfl
   clear HI HRG hl0
   go_wp2_with (at_range; refine wpList_range_mp _ peM rfl _ rfl P 65536 fP rfl HP2.out.pend ?_; intro w2 cnt1 hR2 _ hg2 hsz2)
   go_frame
   have HR2 := Lib.hid hR2
   have HB2 : Hid (Below w.heap.size w w2) := HBW.out.grown hg2 HBW.out.size (fun j hj => by cases hj)
   have HSW := Lib.hid HBW.out.size
   clear hR2 hg2 hsz2 h11
   go_loopw [3] (fun u wx => ∃ (L : Int → Bool) (cnt : Nat) (m : Int), Hid (IsRg peM wx P wa.heap.size 65536 fP L cnt) ∧ u = .int .i64 m ∧ Hid (Below w.heap.size w wx) ∧ Hid (Pp.most2 s.l L m)) (fun _ wx => wx.rangeLeft P wa.heap.size)
   case atStart => exact ⟨_, cnt1, m, HR2.out, rfl, HB2.out, HM1.out⟩
   case round =>
    obtain ⟨L, cnt, m, HRG, rfl, HBX, HI⟩ := hrel
    clear HR2 HB2 HM1
    go_wp2_with (at_next; refine wpList_next_pe _ rfl _ rfl P wa.heap.size 65536 _ L cnt rfl HRG.out ?_ ?_)
    ·intro hl0
     have hw1 : IntKind.i64.wrap (m + 1) = m + 1 := by rw [IntKind.wrap_i64]; obtain ⟨i1, i2, _⟩ := HI.out; omega
     have HEQ : Hid (m + 1 = Pa.pages s.l) := by
      obtain ⟨i1, i2, i3, i4, i5⟩ := HI.out
      refine Pa.pages_eq HS.out.rise (fun x hx => (HS.out.from2 x hx).1) i1 i3 (fun x hx h1 => ?_)
      have h2 := HS.out.from2 x hx
      rcases h2.2.2 with h3 | h3 | h3
      ·exact i4 x hx h3
      ·exact i5 x hx h3 (hl0 x.n (i64_ok (by unfold I64; omega)))
      ·exact absurd h3 h1
     go_wp2
     go_ret
     exact ⟨by rw [HEQ.out]; rfl, HBX.out⟩
    ·intro x c w1 cnt1 hx hLx hfx hrg1 hlt hg1 hs1 hen
     have hb1 : Below w.heap.size w w1 := HBX.out.grown hg1 HBX.out.size (fun j hj => by rw [← Option.some.inj hj]; exact HSW.out)
     have HRG1 := Lib.hid hrg1
     have HB1 := Lib.hid hb1
     have HLT := Lib.hid hlt
     have HLE := Lib.hid (HRG.out.left_eq)
     obtain ⟨y, hy1, hy2, hy3⟩ : ∃ y ∈ s.l, (y.n : Int) = x ∧ y.state = 2 := (HPI.out x).1 (by rw [hfx]; rfl)
     have HY := Lib.hid (And.intro hy1 (And.intro hy2 hy3))
     have hsx := HSP.out x c hfx
     clear hrg1 hb1 hlt hfx hg1 hs1 hx hLx HRG hy1 hy2 hy3
     go_wp2
     go_roundw
     case rel =>
      refine ⟨_, cnt1, (if m < x then x else m), HRG1.out, (by first | rfl | (congr 1; first | (split <;> omega) | omega)), HB1.out, ?_⟩
      obtain ⟨i1, i2, i3, i4, i5⟩ := HI.out
      obtain ⟨hy1, hy2, hy3⟩ := HY.out
      refine ⟨by split <;> omega, by split <;> omega, ?_, fun z hz h1 => by have := i4 z hz h1; split <;> omega, fun z hz h1 h2 => ?_⟩
      ·split
       ·exact .inr ⟨y, hy1, by omega, hy2⟩
       ·exact i3
      ·by_cases e : (z.n : Int) = x
       ·split <;> omega
       ·have h2 : (L z.n && !decide ((z.n : Int) = x)) = false := h2
        rw [decide_eq_false e, Bool.not_false, Bool.and_true] at h2
        have := i5 z hz h1 h2
        split <;> omega
     case measure => rw [HRG1.out.left_eq, HLE.out]; exact HLT.out
  ·intro x c w1 cnt1 hx hLx hfx hrg1 hlt hg1 hs1 hen
   have hb1 : Below w.heap.size w w1 := HBW.out.grown hg1 HBW.out.size (fun j hj => by rw [← Option.some.inj hj]; exact Nat.le_refl _)
   have HRG1 := Lib.hid hrg1
   have HB1 := Lib.hid hb1
   have HLT := Lib.hid hlt
   have HLE := Lib.hid (HRG.out.left_eq)
   obtain ⟨y, hy1, hy2, hy3⟩ : ∃ y ∈ s.l, (y.n : Int) = x ∧ y.state ≠ 2 := Pp.usedF_some.1 (by rw [hfx]; rfl)
   have HY := Lib.hid (And.intro hy1 (And.intro hy2 hy3))
   have hsx := HSU.out x c hfx
   have HP1 := Lib.hid (HP.out.below hb1)
   have h10 : w1.cell? ⟨b, 10, none⟩ = some (.map (some D)) := HP1.out.cell rfl
   have CH := Lib.hid (pyhas_any HP1.out.drop x (by unfold I64; omega))
   obtain ⟨dr, hdr⟩ : ∃ dr, (Pp.dropF s.l x).isSome = dr := ⟨_, rfl⟩
   rw [hdr] at CH
   have HDR := Lib.hid hdr
   clear hrg1 hb1 hlt hfx hg1 hs1 hx hLx HRG hy1 hy2 hy3 hdr
   go_wp2_with fail
   refine CH.out.mono ?_
   rintro e w2 ⟨rfl, b2⟩
   have HRG2 := Lib.hid (HRG1.out.below_ b2 (HRG1.out.owns.lt_) (HRG1.out.lt_))
   have HB2 := Lib.hid (HB1.out.trans (b2.mono HB1.out.size))
   clear CH b2 h10
   cases dr
   ·go_wp2
    go_roundw
    case rel =>
     refine ⟨_, cnt1, (if m < x then x else m), HRG2.out, (by first | rfl | (congr 1; first | (split <;> omega) | omega)), HB2.out, ?_⟩
     obtain ⟨i1, i2, i3, i4⟩ := HI.out
     obtain ⟨hy1, hy2, hy3⟩ := HY.out
     refine ⟨by split <;> omega, by split <;> omega, ?_, fun z hz h1 h2 => ?_⟩
     ·split
      ·refine .inr ⟨y, hy1, fun h3 => ?_, hy2⟩
       have := Pp.dropF_some.2 ⟨y, hy1, hy2, h3⟩
       rw [HDR.out] at this
       cases this
      ·exact i3
     ·by_cases e : (z.n : Int) = x
      ·split <;> omega
      ·have h2 : (L z.n && !decide ((z.n : Int) = x)) = false := h2
       rw [decide_eq_false e, Bool.not_false, Bool.and_true] at h2
       have := i4 z hz h1 h2
       split <;> omega
    case measure => rw [HRG2.out.left_eq, HLE.out]; exact HLT.out
   ·go_wp2
    go_roundw
    case rel =>
     refine ⟨_, cnt1, m, HRG2.out, rfl, HB2.out, ?_⟩
     obtain ⟨i1, i2, i3, i4⟩ := HI.out
     refine ⟨i1, i2, i3, fun z hz h1 h2 => ?_⟩
     by_cases e : (z.n : Int) = x
     ·obtain ⟨v, hv, hv2, hv3⟩ := Pp.dropF_some.1 HDR.out
      have := Pp.rising_inj HS.out.rise hv hz (by omega)
      subst this
      omega
     ·have h2 : (L z.n && !decide ((z.n : Int) = x)) = false := h2
      rw [decide_eq_false e, Bool.not_false, Bool.and_true] at h2
      exact i4 z hz h1 h2
    case measure => rw [HRG2.out.left_eq, HLE.out]; exact HLT.out
end
end Go.Proofs.YtiafeniflkikeaaGreat
