/- Parts of the proof. -/
import Derived.Test.YtiafeniflkikeaaGreatPm44
import Derived.Test.YtiafeniflkikeaaGreatPm46
import Derived.Test.YtiafeniflkikeaaGreatPm47
import Derived.Test.YtiafeniflkikeaaGreatPm39
import Derived.Test.YtiafeniflkikeaaGreatPm08
namespace Go.Proofs.YtiafeniflkikeaaGreat
open Go.RowKit
set_option linter.unusedVariables false
structure FlB (g1 g2 g3 : Nat) (R : Nat → Prop) (D1 D2 D3 : Array Value) (m1 m2 m3 : Pa.M) (w : World) : Prop where
 b1 : Rw w g1 37 D1
 b2 : Rw w g2 37 D2
 b3 : Rw w g3 37 D3
 p1 : PaIs w R (.agg D1) m1
 p2 : PaIs w R (.agg D2) m2
 p3 : PaIs w R (.agg D3) m3
 old : ∀ q, R q → q < w.heap.size
 gs : ¬ R g1 ∧ ¬ R g2 ∧ ¬ R g3
 ne : g1 ≠ g2 ∧ g1 ≠ g3 ∧ g2 ≠ g3
 few : m1.l.length ≤ 1000000 ∧ m2.l.length ≤ 1000000 ∧ m3.l.length ≤ 1000000
section
variable {g1 g2 g3 : Nat} {R R' G : Nat → Prop} {D1 D2 D3 C : Array Value} {m1 m2 m3 m : Pa.M} {w w' : World}
theorem FlB.turned (h : FlB g1 g2 g3 R D1 D2 D3 m1 m2 m3 w) (ht : Turned G w w') (hR : ∀ q, R q → ¬ G q) (hg : ¬ G g1 ∧ ¬ G g2 ∧ ¬ G g3) : FlB g1 g2 g3 R D1 D2 D3 m1 m2 m3 w' :=
 ⟨(ht.block _ h.b1.lt hg.1).trans h.b1, (ht.block _ h.b2.lt hg.2.1).trans h.b2, (ht.block _ h.b3.lt hg.2.2).trans h.b3, h.p1.turned_ ht hR, h.p2.turned_ ht hR, h.p3.turned_ ht hR, fun q hq => Nat.lt_of_lt_of_le (h.old q hq) ht.size, h.gs, h.ne, h.few⟩
theorem FlB.below (h : FlB g1 g2 g3 R D1 D2 D3 m1 m2 m3 w) (hb : Below w.heap.size w w') : FlB g1 g2 g3 R D1 D2 D3 m1 m2 m3 w' :=
 h.turned (Turned.of_below hb) (fun q hq => by have := h.old q hq; omega) ⟨by have := h.b1.lt; omega, by have := h.b2.lt; omega, by have := h.b3.lt; omega⟩
theorem FlB.more (h : FlB g1 g2 g3 R D1 D2 D3 m1 m2 m3 w) (hR : ∀ q, R q → R' q) (ho : ∀ q, R' q → q < w.heap.size) (hg : ¬ R' g1 ∧ ¬ R' g2 ∧ ¬ R' g3) : FlB g1 g2 g3 R' D1 D2 D3 m1 m2 m3 w :=
 ⟨h.b1, h.b2, h.b3, h.p1.more_ hR, h.p2.more_ hR, h.p3.more_ hR, ho, hg, h.ne, h.few⟩
theorem FlB.set1 (h : FlB g1 g2 g3 R D1 D2 D3 m1 m2 m3 w) (hv : PaIs w R (.agg C) m) (hl : m.l.length ≤ 1000000) : FlB g1 g2 g3 R C D2 D3 m m2 m3 (w.setRow g1 C) := by
 have ht : Turned (fun q => q = g1) w (w.setRow g1 C) := (Turned.refl (fun q => q = g1) w).setRow (fun _ => rfl) _
 have hn : ∀ q, R q → ¬ q = g1 := fun q hq e => h.gs.1 (e ▸ hq)
 exact ⟨h.b1.row C, h.b2.rowOther (Ne.symm h.ne.1) _, h.b3.rowOther (Ne.symm h.ne.2.1) _, hv.turned_ ht hn, h.p2.turned_ ht hn, h.p3.turned_ ht hn, fun q hq => Nat.lt_of_lt_of_le (h.old q hq) ht.size, h.gs, h.ne, hl, h.few.2⟩
theorem FlB.set2 (h : FlB g1 g2 g3 R D1 D2 D3 m1 m2 m3 w) (hv : PaIs w R (.agg C) m) (hl : m.l.length ≤ 1000000) : FlB g1 g2 g3 R D1 C D3 m1 m m3 (w.setRow g2 C) := by
 have ht : Turned (fun q => q = g2) w (w.setRow g2 C) := (Turned.refl (fun q => q = g2) w).setRow (fun _ => rfl) _
 have hn : ∀ q, R q → ¬ q = g2 := fun q hq e => h.gs.2.1 (e ▸ hq)
 exact ⟨h.b1.rowOther h.ne.1 _, h.b2.row C, h.b3.rowOther (Ne.symm h.ne.2.2) _, h.p1.turned_ ht hn, hv.turned_ ht hn, h.p3.turned_ ht hn, fun q hq => Nat.lt_of_lt_of_le (h.old q hq) ht.size, h.gs, h.ne, h.few.1, hl, h.few.2.2⟩
theorem FlB.set3 (h : FlB g1 g2 g3 R D1 D2 D3 m1 m2 m3 w) (hv : PaIs w R (.agg C) m) (hl : m.l.length ≤ 1000000) : FlB g1 g2 g3 R D1 D2 C m1 m2 m (w.setRow g3 C) := by
 have ht : Turned (fun q => q = g3) w (w.setRow g3 C) := (Turned.refl (fun q => q = g3) w).setRow (fun _ => rfl) _
 have hn : ∀ q, R q → ¬ q = g3 := fun q hq e => h.gs.2.2 (e ▸ hq)
 exact ⟨h.b1.rowOther h.ne.2.1 _, h.b2.rowOther h.ne.2.2 _, h.b3.row C, h.p1.turned_ ht hn, h.p2.turned_ ht hn, hv.turned_ ht hn, fun q hq => Nat.lt_of_lt_of_le (h.old q hq) ht.size, h.gs, h.ne, h.few.1, h.few.2.1, hl⟩
end
structure FlP (g1 g2 g3 : Nat) (R : Nat → Prop) (n0 : Nat) (fp fd : Fp) (s : Pp.S) (F : List Nat) (t : Sf.St) (b bf : Nat) (w : World) : Prop where
 pg : PPager w fp s F b bf
 dk : PDisk w fd t bf
 ap : fp.Apart fd
 ro : ∀ q, R q → ¬ fp.M q ∧ ¬ fd.M q
 gp : ∀ g, g = g1 ∨ g = g2 ∨ g = g3 → (¬ fp.M g ∧ ¬ fp.R g) ∧ (¬ fd.M g ∧ ¬ fd.R g)
 fr : fp.From n0 ∧ fd.From n0
theorem FlP.turned {g1 g2 g3 : Nat} {R G : Nat → Prop} {n0 : Nat} {fp fd : Fp} {s : Pp.S} {F : List Nat} {t : Sf.St} {b bf : Nat} {w w' : World} (h : FlP g1 g2 g3 R n0 fp fd s F t b bf w) (ht : Turned G w w') (h1 : fp.Off G) (h2 : fd.Off G) : FlP g1 g2 g3 R n0 fp fd s F t b bf w' :=
 ⟨ppager_turned h.pg ht h1, pdisk_law.turned h.dk ht h2, h.ap, h.ro, h.gp, h.fr⟩
theorem FlP.below {g1 g2 g3 : Nat} {R : Nat → Prop} {n0 : Nat} {fp fd : Fp} {s : Pp.S} {F : List Nat} {t : Sf.St} {b bf : Nat} {w w' : World} (h : FlP g1 g2 g3 R n0 fp fd s F t b bf w) (hb : Below w.heap.size w w') : FlP g1 g2 g3 R n0 fp fd s F t b bf w' :=
 h.turned (Turned.of_below hb) ((ppager_lt h.pg).off fun _ h => h) ((pdisk_law.lt h.dk).off fun _ h => h)
theorem FlP.row {g1 g2 g3 g : Nat} {R : Nat → Prop} {n0 : Nat} {fp fd : Fp} {s : Pp.S} {F : List Nat} {t : Sf.St} {b bf : Nat} {w : World} (h : FlP g1 g2 g3 R n0 fp fd s F t b bf w) (hg : g = g1 ∨ g = g2 ∨ g = g3) (C : Array Value) : FlP g1 g2 g3 R n0 fp fd s F t b bf (w.setRow g C) :=
 h.turned ((Turned.refl (fun q => q = g) w).setRow (fun _ => rfl) C) (fun q hq => by subst hq; exact (h.gp _ hg).1) (fun q hq => by subst hq; exact (h.gp _ hg).2)
theorem FlP.call {g1 g2 g3 : Nat} {R : Nat → Prop} {n0 : Nat} {fp fd : Fp} {s s' : Pp.S} {F : List Nat} {t : Sf.St} {b bf : Nat} {w w' : World} (h : FlP g1 g2 g3 R n0 fp fd s F t b bf w) (hs : ∀ q, R q → q < w.heap.size) (hgs : g1 < w.heap.size ∧ g2 < w.heap.size ∧ g3 < w.heap.size) (hn : n0 ≤ w.heap.size) (hc : TurnsP fp s' F b bf w w') :
  ∃ fp', FlP g1 g2 g3 R n0 fp' fd s' F t b bf w' ∧ Turned fp.M w w' := by
 obtain ⟨f', hP, hN, hT⟩ := hc
 have hld := pdisk_law.lt h.dk
 refine ⟨f', ⟨hP, pdisk_law.turned h.dk hT h.ap.2, ?_, fun q hq => ⟨fun hm => (hN.m q hm).elim (h.ro q hq).1 (fun h' => by have := hs q hq; omega), (h.ro q hq).2⟩, fun g hg => ⟨⟨fun hm => (hN.m g hm).elim (h.gp g hg).1.1 (fun h' => ?_), fun hm => (hN.r g hm).elim (h.gp g hg).1.2 (fun h' => ?_)⟩, (h.gp g hg).2⟩, hN.from_ h.fr.1 hn, h.fr.2⟩, hT⟩
 ·exact h.ap.next hN (fun q hq => hld q hq)
 ·rcases hg with rfl | rfl | rfl <;> omega
 ·rcases hg with rfl | rfl | rfl <;> omega
theorem FlB.ref {g1 g2 g3 : Nat} {R : Nat → Prop} {D1 D2 D3 : Array Value} {m1 m2 m3 : Pa.M} {w w' : World} (h : FlB g1 g2 g3 R D1 D2 D3 m1 m2 m3 w) (b : Below w.heap.size w w') : FlB g1 g2 g3 (RX R w w') D1 D2 D3 m1 m2 m3 w' := by
 have l1 := h.b1.lt
 have l2 := h.b2.lt
 have l3 := h.b3.lt
 refine (h.below b).more (fun q hq => .inl hq) (fun q hq => ?_) ⟨?_, ?_, ?_⟩
 ·rcases hq with hq | hq
  ·exact Nat.lt_of_lt_of_le (h.old q hq) b.size
  ·exact hq.2
 ·rintro (hq | hq)
  ·exact h.gs.1 hq
  ·omega
 ·rintro (hq | hq)
  ·exact h.gs.2.1 hq
  ·omega
 ·rintro (hq | hq)
  ·exact h.gs.2.2 hq
  ·omega
theorem FlP.ref {g1 g2 g3 : Nat} {R : Nat → Prop} {n0 : Nat} {fp fd : Fp} {s : Pp.S} {F : List Nat} {t : Sf.St} {b bf : Nat} {w w' : World} (h : FlP g1 g2 g3 R n0 fp fd s F t b bf w) (hb : Below w.heap.size w w') : FlP g1 g2 g3 (RX R w w') n0 fp fd s F t b bf w' := by
 have h1 := ppager_lt h.pg
 have h2 := pdisk_law.lt h.dk
 have h3 := h.below hb
 refine ⟨h3.pg, h3.dk, h.ap, fun q hq => ?_, h.gp, h.fr⟩
 rcases hq with hq | hq
 ·exact h.ro q hq
 ·exact ⟨fun hm => by have := h1 q (.inl hm); omega, fun hm => by have := h2 q (.inl hm); omega⟩
theorem wpList_load_midF {P : Program} {ops : Array Oper} {rest : List Oper} {op : Oper} {a : Act} {w : World} {Q : Exit → Act → World → Prop} (hgd : op.guard = none) (ty : TypeId) (x : Operand) (ho : op.op = .load ty x)
  (b o : Nat) (hx : a.eval x = .pointer (some ⟨b, o, none⟩)) (cs : Array Value) (d : TypeDesc) (hc : w.rangeAt b o cs.toList) (hu : P.underlying ty = some d) (hd : d.isRow = true) (hi : (P.info? ty).map (·.size) = some cs.size)
  (h : wpList P ops Q rest (a.put op.dst (.agg cs)) w) : wpList P ops Q (op :: rest) a w :=
 wpList_load_mid hgd ty x ho b o hx cs.toList d hc hu hd (by simpa using hi) (by simpa using h)
theorem FlP.commit {g1 g2 g3 : Nat} {R : Nat → Prop} {n0 : Nat} {fp fd fp' fd' : Fp} {s s' : Pp.S} {F F' : List Nat} {t t' : Sf.St} {b bf : Nat} {w w' : World} (h : FlP g1 g2 g3 R n0 fp fd s F t b bf w) (hs : ∀ q, R q → q < w.heap.size) (hgs : g1 < w.heap.size ∧ g2 < w.heap.size ∧ g3 < w.heap.size) (hn : n0 ≤ w.heap.size)
  (hP : PPager w' fp' s' F' b bf) (hD : PDisk w' fd' t' bf) (hN : fp.Next fp' w.heap.size) (hM : fd.Next fd' w.heap.size) (hap : fp'.Apart fd') : FlP g1 g2 g3 R n0 fp' fd' s' F' t' b bf w' := by
 refine ⟨hP, hD, hap, fun q hq => ⟨fun hm => (hN.m q hm).elim (h.ro q hq).1 (fun h' => by have := hs q hq; omega), fun hm => (hM.m q hm).elim (h.ro q hq).2 (fun h' => by have := hs q hq; omega)⟩, fun g hg => ?_, hN.from_ h.fr.1 hn, hM.from_ h.fr.2 hn⟩
 have hgw : g < w.heap.size := by rcases hg with rfl | rfl | rfl <;> omega
 exact ⟨⟨fun hm => (hN.m g hm).elim (h.gp g hg).1.1 (fun h' => by omega), fun hm => (hN.r g hm).elim (h.gp g hg).1.2 (fun h' => by omega)⟩, ⟨fun hm => (hM.m g hm).elim (h.gp g hg).2.1 (fun h' => by omega), fun hm => (hM.r g hm).elim (h.gp g hg).2.2 (fun h' => by omega)⟩⟩
theorem FlB.lt3 {g1 g2 g3 : Nat} {R : Nat → Prop} {D1 D2 D3 : Array Value} {m1 m2 m3 : Pa.M} {w : World} (h : FlB g1 g2 g3 R D1 D2 D3 m1 m2 m3 w) : g1 < w.heap.size ∧ g2 < w.heap.size ∧ g3 < w.heap.size := ⟨h.b1.lt, h.b2.lt, h.b3.lt⟩
theorem FlP.gs {g1 g2 g3 : Nat} {R : Nat → Prop} {n0 : Nat} {fp fd : Fp} {s : Pp.S} {F : List Nat} {t : Sf.St} {b bf : Nat} {w : World} (h : FlP g1 g2 g3 R n0 fp fd s F t b bf w) : ¬ fp.M g1 ∧ ¬ fp.M g2 ∧ ¬ fp.M g3 := ⟨(h.gp g1 (.inl rfl)).1.1, (h.gp g2 (.inr (.inl rfl))).1.1, (h.gp g3 (.inr (.inr rfl))).1.1⟩
theorem FlP.gt {g1 g2 g3 : Nat} {R : Nat → Prop} {n0 : Nat} {fp fd : Fp} {s : Pp.S} {F : List Nat} {t : Sf.St} {b bf : Nat} {w : World} (h : FlP g1 g2 g3 R n0 fp fd s F t b bf w) : ¬ (fp.M g1 ∨ fd.M g1) ∧ ¬ (fp.M g2 ∨ fd.M g2) ∧ ¬ (fp.M g3 ∨ fd.M g3) := by
 refine ⟨?_, ?_, ?_⟩
 ·have := h.gp g1 (.inl rfl); exact fun e => e.elim this.1.1 this.2.1
 ·have := h.gp g2 (.inr (.inl rfl)); exact fun e => e.elim this.1.1 this.2.1
 ·have := h.gp g3 (.inr (.inr rfl)); exact fun e => e.elim this.1.1 this.2.1
theorem PaIs.cells {w : World} {R : Nat → Prop} {v : Value} {m : Pa.M} (h : PaIs w R v m) : ∃ C : Array Value, v = .agg C ∧ C.size = 9 ∧ C.all (·.oneCell') = true := by obtain ⟨A, c, e, _⟩ := h; exact ⟨_, e, rfl, paC_one _ _ _ _ _⟩
theorem actC_one (x : RawT) : (actC x).all (·.oneCell') = true := by simp [actC, actL, Value.oneCell']
set_option maxRecDepth 100000 in
theorem act_size : (Tryz.prog.info? 42).map (·.size) = some 12 := by kernel_rfl
theorem act_root {w : World} {g : Nat} {x : RawT} (h : Rw w g 42 (actC x)) : w.rangeAt g 5 (rtC x.root).toList := by
 intro j u hj
 rw [h.cell]
 have hj7 : j < 7 := by have := (List.getElem?_eq_some_iff.1 hj).1; exact this
 have hi : j = 0 ∨ j = 1 ∨ j = 2 ∨ j = 3 ∨ j = 4 ∨ j = 5 ∨ j = 6 := by omega
 rcases hi with rfl | rfl | rfl | rfl | rfl | rfl | rfl <;> exact hj
theorem acts_stepF {a b k : Nat} (h : b ≤ a + 200000) (h2 : a ≤ 1000 + 200000 * k) : b ≤ 1000 + 200000 * (k + 1) := by
 rw [Nat.mul_succ, ← Nat.add_assoc]
 exact Nat.le_trans h (Nat.add_le_add_right h2 _)
theorem Fl.start {w3 w4 Y : World} {f3 f2 : Fp} {s : Pp.S} {F : List Nat} {t : Sf.St} {b bf g1 g2 g3 n2 n0 : Nat} {D : Array Value} {m : Pa.M} (hP : PPager w3 f3 s F b bf) (hD : PDisk w3 f2 t bf) (hf3 : f3.From n2) (hl2 : f2.Lt n2) (hn2 : n2 ≤ w3.heap.size)
  (hv : PaIs w4 (RX (fun _ => False) w3 w4) (.agg D) m) (b4 : Below w3.heap.size w3 w4) (bY : Below w4.heap.size w4 Y) (h1 : w4.heap.size ≤ g1) (h2 : w4.heap.size ≤ g2) (h3 : w4.heap.size ≤ g3) (hne : g1 ≠ g2 ∧ g1 ≠ g3 ∧ g2 ≠ g3)
  (r1 : Rw Y g1 37 D) (r2 : Rw Y g2 37 D) (r3 : Rw Y g3 37 D) (hfew : m.l.length ≤ 1000000) (hr3 : f3.From n0) (hr2 : f2.From n0) :
  FlB g1 g2 g3 (RX (fun _ => False) w3 w4) D D D m m m Y ∧ FlP g1 g2 g3 (RX (fun _ => False) w3 w4) n0 f3 f2 s F t b bf Y := by
 have l3 := ppager_lt hP
 have s4 := b4.size
 have sY := bY.size
 have hp := hv.below_ bY
 have hR : ∀ q, RX (fun _ => False) w3 w4 q → w3.heap.size ≤ q ∧ q < w4.heap.size := fun q hq => hq.elim (fun h => h.elim) id
 have hb : Below w3.heap.size w3 Y := b4.trans (bY.mono s4)
 refine ⟨⟨r1, r2, r3, hp, hp, hp, fun q hq => by have := hR q hq; omega, ⟨fun h => by have := hR _ h; omega, fun h => by have := hR _ h; omega, fun h => by have := hR _ h; omega⟩, hne, hfew, hfew, hfew⟩,
  ⟨ppager_turned hP (Turned.of_below hb) (l3.off fun _ h => h), pdisk_law.below hD hb, ⟨hf3.off fun q hq => hl2 q (.inl hq), hl2.off fun q hq => hf3 q (.inl hq)⟩, fun q hq => ⟨fun h => by have := hR q hq; have := l3 q (.inl h); omega, fun h => by have := hR q hq; have := hl2 q (.inl h); omega⟩, fun g hg => ?_, hr3, hr2⟩⟩
 have hgw : w4.heap.size ≤ g := by rcases hg with rfl | rfl | rfl <;> assumption
 exact ⟨⟨fun h => by have := l3 g (.inl h); omega, fun h => by have := l3 g (.inr h); omega⟩, ⟨fun h => by have := hl2 g (.inl h); omega, fun h => by have := hl2 g (.inr h); omega⟩⟩
theorem Pp.t3_get (F : List Nat) (a n : Nat) : Sf.get { (Pp.t2 F a) with fuse := n } ⟨#[105]⟩ = (0, 0) := by
 unfold Sf.get Pp.t2
 rw [if_neg (by intro h; cases h)]
 have : Sf.find (Sf.with_ [] ⟨#[105]⟩ 0) ⟨#[105]⟩ = some 0 := by decide +kernel
 show (match Sf.find (Sf.with_ [] ⟨#[105]⟩ 0) ⟨#[105]⟩ with | none => (0, 7) | some n => (n, 0)) = (0, 0)
 rw [this]
theorem Pp.fine_made (a n : Nat) : Pp.Fine ⟨⟨#[105]⟩, Pa.new.root, 2, [], 0⟩ Pp.made { (Pp.t2 Pp.made a) with fuse := n } 0 Pa.new Pa.new 0 := by
 refine ⟨Pp.goes_new _ _, rfl, rfl, fun x hx => ?_, rfl, rfl, fun x hx => absurd hx List.not_mem_nil, by rw [Pp.made_len]; omega, by rw [Pp.made_len]; omega, rfl, (by show Sf.find (Sf.with_ [] ⟨#[105]⟩ 0) ⟨#[105]⟩ = some 0; decide +kernel), rfl, rfl, Nat.le_refl _⟩
 obtain ⟨l, rfl⟩ := hx
 have e : Sf.fileAt { (Pp.t2 Pp.made a) with fuse := n } 0 = ⟨Pp.made, []⟩ := rfl
 rw [e, Sf.kept1_none]
 exact ⟨by rw [Pp.made_len]; omega, Pp.told_made, fun p hp => absurd hp List.not_mem_nil⟩
set_option maxRecDepth 100000 in
theorem act_zero : (Tryz.prog.info? 42).map (fun i => (i.zero, i.size)) = some (some (.agg (actC ⟨0, 0, false, 0, none, 0, 0, Rt.zero⟩)), 12) := by kernel_rfl
end Go.Proofs.YtiafeniflkikeaaGreat
