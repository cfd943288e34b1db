/-
  VqGetD: vocfile.read of the program: the deferred closure that recovers a fault.
  VqGetV: vocfile.read of the program: a vocabulary, or a fault that is caught.
  VqGet: vocfile.Get of the program.
-/
import Derived.Test.YtglkhgchbnkekaaPk30
import Derived.Test.YtglkhgchbnkekaaPk26
import Derived.Test.YtglkhgchbnkekaaPk31
import Derived.Test.YtglkhgchbnkekaaPk34
import Derived.Test.YtglkhgchbnkekaaPk29
import Derived.Deep.RegionLaw
import Derived.Deep.CutRange
namespace Go.Proofs.Ytglkhgchbnkekaa
open Go.RowKit
set_option linter.unusedVariables false

def faultV (e a : Nat) : Value := .iface 61 (.agg #[.int .i64 (e : Nat), .int .i64 (a : Nat)])
theorem assert_fault (x y : Value) (w : World) : (Instr.typeAssert (.iface 61 (.agg #[x, y])) 20 61 false).run Try.prog w = .ok (.agg #[x, y]) w := by kernel_rfl
theorem bodyPostS_end0 {P : Program} {fn : Func} {c₀ : Frame} {cs cs' : List Frame} {R : Ending → FrameMode → World → Prop} {a : Act} {w : World} (u' : FrameMode) (hr : fn.results = #[]) (hd : a.defers = [])
    (hc : cs' = { c₀ with mode := u' } :: cs) (h : R (.returned (.tuple #[])) u' w) : bodyPostS P fn c₀ cs R .normal a cs' w :=
  ⟨hd, u', hc, _, results_none hr _ _ _, h⟩

set_option maxHeartbeats 2000000 in
theorem pcatch_idle (p q : Addr) (w : World) :
    CallsD Try.prog 51 #[.pointer (some p), .pointer (some q)] .returning w fun e u' w' =>
      e = .returned (.tuple #[]) ∧ u' = .returning ∧ w' = w := by
  refine callsD_of_wpS Try.func51 rfl fun c₀ cs hu => ?_
  refine wpS_recover (by simp [go_sem, Region.wanted]) (by simp [go_sem]) (show recD (c₀ :: cs) = (.nilIface, c₀ :: cs) by simp [recD, recoverD, hu]) ?_
  have HU := Lib.hid hu
  clear hu
  simp only [Try.ntmps51, List.size_toArray, List.length_cons, List.length_nil, Nat.reduceAdd, Nat.reduceSub, Array.replicate_succ,
     Array.replicate_zero, List.push_toArray, List.append_toArray, List.nil_append, List.cons_append]
  go_wp2
  refine bodyPostS_end0 .returning ?_ ?_ ?_ ?_
  · rfl
  · rfl
  · rw [← HU.out]
  exact ⟨rfl, rfl, rfl⟩

set_option maxHeartbeats 4000000 in
theorem pcatch_fault (z1 z2 e a : Nat) (u x y : Value) (w : World) (h1 : w.heap[z1]? = some (.cells #[u] 24 (0, 0))) (h2 : w.heap[z2]? = some (.cells #[x, y] 61 (0, 0))) (hd : z1 ≠ z2) :
    CallsD Try.prog 51 #[.pointer (some ⟨z1, 0, none⟩), .pointer (some ⟨z2, 0, none⟩)] (.panicking [{ v := faultV e a, recovered := false }]) w fun en u' w' =>
      en = .returned (.tuple #[]) ∧ u' = .panicking [{ v := faultV e a, recovered := true }] ∧ w'.heap[z1]? = some (.cells #[.slice none 0 0] 24 (0, 0)) ∧
      w'.heap[z2]? = some (.cells #[.int .i64 (e : Nat), .int .i64 (a : Nat)] 61 (0, 0)) ∧ Turned (fun k => k = z1 ∨ k = z2) w w' := by
  have ha := assert_fault (.int .i64 (e : Nat)) (.int .i64 (a : Nat))
  refine callsD_of_wpS Try.func51 rfl fun c₀ cs hu => ?_
  simp only [Try.ntmps51, List.size_toArray, List.length_cons, List.length_nil, Nat.reduceAdd, Nat.reduceSub, Array.replicate_succ,
     Array.replicate_zero, List.push_toArray, List.append_toArray, List.nil_append, List.cons_append]
  refine wpS_recover (by simp [go_sem, Region.wanted]) (by simp [go_sem]) (show recD (c₀ :: cs) = (faultV e a, { c₀ with mode := .panicking [{ v := faultV e a, recovered := true }] } :: cs) by simp [recD, recoverD, hu]) ?_
  clear hu
  unfold faultV
  have c1 : w.cell? ⟨z1, 0, none⟩ = some u := by rw [cell_of_row _ z1 0 _ _ _ h1]; rfl
  have c2 : w.cell? ⟨z2, 0, none⟩ = some x := by rw [cell_of_row _ z2 0 _ _ _ h2]; rfl
  have c3 : w.cell? ⟨z2, 1, none⟩ = some y := by rw [cell_of_row _ z2 1 _ _ _ h2]; rfl
  have g1 : w.frozen? ⟨z1, 0, none⟩ = false := frozen_of_row _ z1 0 _ _ h1
  have g2 : w.frozen? ⟨z2, 0, none⟩ = false := frozen_of_row _ z2 0 _ _ h2
  have g3 : w.frozen? ⟨z2, 1, none⟩ = false := frozen_of_row _ z2 1 _ _ h2
  have d21 := Ne.symm hd
  have H1 := Lib.hid h1
  have H2 := Lib.hid h2
  clear h1 h2
  go_wp2
  go_region
  go_wp2
  have h1 := H1.out
  have h2 := H2.out
  obtain ⟨W, hW⟩ : ∃ W, (((w.setCell ⟨z1, 0, none⟩ (.slice none 0 0)).setCell ⟨z2, 0, none⟩ (.int .i64 (e : Nat))).setCell ⟨z2, 1, none⟩ (.int .i64 (a : Nat))).drew = W := ⟨_, rfl⟩
  have HX : W.heap[z1]? = some (.cells #[.slice none 0 0] 24 (0, 0)) := by
    rw [← hW]
    show (((w.setCell ⟨z1, 0, none⟩ _).setCell ⟨z2, 0, none⟩ _).setCell ⟨z2, 1, none⟩ _).heap[z1]? = _
    rw [heap_setCell_other _ ⟨z2, 1, none⟩ z1 _ hd, heap_setCell_other _ ⟨z2, 0, none⟩ z1 _ hd, heap_setCell_same _ z1 0 _ _ _ h1]; rfl
  have HY : W.heap[z2]? = some (.cells #[.int .i64 (e : Nat), .int .i64 (a : Nat)] 61 (0, 0)) := by
    rw [← hW]
    show (((w.setCell ⟨z1, 0, none⟩ _).setCell ⟨z2, 0, none⟩ _).setCell ⟨z2, 1, none⟩ _).heap[z2]? = _
    rw [heap_setCell_same _ z2 1 _ _ _ (heap_setCell_same _ z2 0 _ _ _ ((heap_setCell_other _ ⟨z1, 0, none⟩ z2 _ d21).trans h2))]; rfl
  have HT : Turned (fun k => k = z1 ∨ k = z2) w W := by
    rw [← hW]
    exact ((((Turned.refl _ w).setCell (p := ⟨z1, 0, none⟩) (fun _ => .inl rfl) _).setCell (p := ⟨z2, 0, none⟩) (fun _ => .inr rfl) _).setCell (p := ⟨z2, 1, none⟩) (fun _ => .inr rfl) _).drew
  rw [hW]
  refine bodyPostS_end0 (.panicking [{ v := .iface 61 (.agg #[.int .i64 (e : Nat), .int .i64 (a : Nat)]), recovered := true }]) ?_ ?_ ?_ ?_
  · rfl
  · rfl
  · rfl
  exact ⟨rfl, rfl, HX, HY, HT⟩
end Go.Proofs.Ytglkhgchbnkekaa
namespace Go.Proofs.Ytglkhgchbnkekaa
open Go.RowKit
set_option linter.unusedVariables false

/-- read answers a vocabulary and a fault (of none: noughts). -/
def IsRe (r : List Vo.Pc × Nat × Nat) (w : World) (e : Ending) (w' : World) : Prop :=
  ∃ A c, e = .returned (.tuple #[.agg #[.slice A r.1.length c], .agg #[.int .i64 (r.2.2 : Nat), .int .i64 (r.2.1 : Nat)]]) ∧ OwnL pK w' w.heap.size (.slice A r.1.length c) r.1 ∧ Below w.heap.size w w'

theorem results_box2 {fn : Func} {p q : Tmp} (h : fn.results = #[.cell p 24, .cell q 61]) (tmps : Array Value) (w : World) (g1 g2 : Nat) (u x y : Value) (t1 t2 : TypeId)
    (hp : tmps.getD p undef = .pointer (some ⟨g1, 0, none⟩)) (hq : tmps.getD q undef = .pointer (some ⟨g2, 0, none⟩))
    (h1 : w.heap[g1]? = some (.cells #[u] t1 (0, 0))) (h2 : w.heap[g2]? = some (.cells #[x, y] t2 (0, 0))) :
    (results fn tmps).run Try.prog w = .ok (.tuple #[.agg #[u], .agg #[x, y]]) w := by
  have hp' : tmps[p]?.getD undef = .pointer (some ⟨g1, 0, none⟩) := by simpa using hp
  have hq' : tmps[q]?.getD undef = .pointer (some ⟨g2, 0, none⟩) := by simpa using hq
  have c1 : w.cell? ⟨g1, 0, none⟩ = some u := by rw [cell_of_row _ g1 0 _ _ _ h1]; rfl
  have c2 : w.cell? ⟨g2, 0, none⟩ = some x := by rw [cell_of_row _ g2 0 _ _ _ h2]; rfl
  have c3 : w.cell? ⟨g2, 1, none⟩ = some y := by rw [cell_of_row _ g2 1 _ _ _ h2]; rfl
  simp [results, h, hp', hq', asAddr, go_sem, c1, c2, c3]

/-- read's deferred closure. -/
def rdD (z : Nat) : Deferred := { target := .fn (.func 51) #[.pointer (some ⟨z, 0, none⟩), .pointer (some ⟨z + 1, 0, none⟩)], args := #[] }

/-- A fault that comes up anywhere in read is what it answers. -/
theorem read_fault {a : Act} {w w2 : World} {z e x : Nat} {u x1 y1 : Value} {r : List Vo.Pc × Nat × Nat} (hd : a.defers = [rdD z]) (h2 : a.tmps.getD 2 undef = .pointer (some ⟨z, 0, none⟩)) (h3 : a.tmps.getD 3 undef = .pointer (some ⟨z + 1, 0, none⟩))
    (k1 : w2.heap[z]? = some (.cells #[u] 24 (0, 0))) (k2 : w2.heap[z + 1]? = some (.cells #[x1, y1] 61 (0, 0))) (hz : w.heap.size = z) (hb : Below z w w2) (hr : r = ([], x, e)) :
    bodyPostD Try.prog Try.f33 (IsRe r w) (.panic [{ v := faultV e x, recovered := false }]) a w2 := by
  show Leaves _ _ _ _ a.defers _ _
  rw [hd]
  unfold rdD
  refine leaves_cons (f := 51) (args := #[.pointer (some ⟨z, 0, none⟩), .pointer (some ⟨z + 1, 0, none⟩)]) (by simp) (by simp [go_sem]) ?_
  refine (pcatch_fault z (z + 1) e x _ _ _ w2 k1 k2 (by omega)).mono ?_
  rintro en u' w4 ⟨rfl, rfl, m1, m2, t4⟩
  have l1 := (Array.getElem?_eq_some_iff.1 k2).1
  subst hr
  refine ⟨_, results_box2 rfl _ w4 z (z + 1) _ _ _ _ _ h2 h3 m1 m2, none, 0, rfl, OwnL.nil_ _ _ _, ?_⟩
  rw [hz]
  exact hb.trans (t4.below (by omega) (fun k h => by omega))

/-- A region that leaves by a panic in a function that defers. -/
def PanD (ds : List Deferred) (p2 p3 : Value) (X : List PanicEntry → World → Prop) : Exit → Act → World → Prop
  | .panic c, a, w => a.defers = ds ∧ a.tmps.getD 2 undef = p2 ∧ a.tmps.getD 3 undef = p3 ∧ X c w
  | _, _, _ => False
theorem PanD.put {ds : List Deferred} {p2 p3 : Value} {X : List PanicEntry → World → Prop} {k : Nat} {v : Value} (h2 : k ≠ 2) (h3 : k ≠ 3) (c : List PanicEntry) (a : Act) (w : World) (h : PanD ds p2 p3 X (.panic c) (a.put (some k) v) w) : PanD ds p2 p3 X (.panic c) a w := by
  obtain ⟨e1, e2, e3, e4⟩ := h
  refine ⟨e1, ?_, ?_, e4⟩
  · simpa [Act.put, Array.getElem?_setIfInBounds_ne h2] using e2
  · simpa [Act.put, Array.getElem?_setIfInBounds_ne h3] using e3

namespace Vf
theorem fits_ok {p : Vo.Pc} (h : Fits p) : PcOk p := by
  unfold Fits at h
  split at h
  · obtain ⟨h1, h2, h3, h4, h5, h6⟩ := h
    exact ⟨by omega, by unfold I64; omega, by unfold I64; omega, by omega⟩
  · obtain ⟨h1, h2, h3, h4⟩ := h
    exact ⟨h4, by unfold I64; omega, by unfold I64; omega, by omega⟩
theorem getE_magic {l : List Nat} (h : l.take 6 ≠ magic) : getE l = ([], 0, 5) := by unfold getE; rw [if_pos h]
theorem getE_num {l : List Nat} (hm : l.take 6 = magic) {e x : Nat} (h : num l 6 4096 = .bad e x) : getE l = ([], x, e) := by unfold getE; rw [if_neg (by simp [hm]), h]
theorem getE_done {l : List Nat} (hm : l.take 6 = magic) {n a : Nat} {Q : List (Vo.Pc × Nat)} (h : Prog l n n Q a) :
    (∀ e x, sumP l a = .bad e x → getE l = ([], x, e) ∧ e ≠ 0) ∧ (∀ k, sumP l a = .got () k → getE l = if (Vo.check (Q.map Prod.fst)).1 ≠ 0 then ([], (match Q[(Vo.check (Q.map Prod.fst)).2]? with | some q => q.2 | none => a), 11) else (Q.map Prod.fst, 0, 0)) := by
  obtain ⟨a0, h1, h2⟩ := h.done
  have hE : getE l = if l.length - a < 4 then ([], l.length, 4) else if (l.drop a).take 4 ≠ four (Cr.of (l.take a)) then ([], a, 6) else if a + 4 < l.length then ([], a + 4, 5) else if (Vo.check (Q.map Prod.fst)).1 ≠ 0 then ([], (match Q[(Vo.check (Q.map Prod.fst)).2]? with | some q => q.2 | none => a), 11) else (Q.map Prod.fst, 0, 0) := by
    unfold getE
    rw [if_neg (by simp [hm]), h1]
    simp only
    rw [h2]
    rfl
  unfold sumP
  rw [hE]
  by_cases c1 : l.length - a < 4
  · rw [if_pos c1, if_pos c1]
    exact ⟨fun e x he => by injection he with e1 e2; subst e1 e2; exact ⟨rfl, by decide⟩, fun k he => by cases he⟩
  · rw [if_neg c1, if_neg c1]
    by_cases c2 : (l.drop a).take 4 ≠ four (Cr.of (l.take a))
    · rw [if_pos c2, if_pos c2]
      exact ⟨fun e x he => by injection he with e1 e2; subst e1 e2; exact ⟨rfl, by decide⟩, fun k he => by cases he⟩
    · rw [if_neg c2, if_neg c2]
      by_cases c3 : a + 4 < l.length
      · rw [if_pos c3, if_pos c3]
        exact ⟨fun e x he => by injection he with e1 e2; subst e1 e2; exact ⟨rfl, by decide⟩, fun k he => by cases he⟩
      · rw [if_neg c3, if_neg c3]
        exact ⟨fun e x he => (by cases he), fun k he => by injection he with e1 e2; exact rfl⟩
end Vf


set_option maxHeartbeats 8000000 in
set_option maxRecDepth 100000 in
theorem pread_any (l : List Nat) (v : Value) (B : Nat) (w : World) (hv : Lv yK w B v l) (hB : B ≤ w.heap.size) (hl : l.length ≤ 140000) :
    Calls Try.prog 33 #[v] w (IsRe (Vf.getE l) w) := by
  have hmf : ∀ (fn : Fn) (first cap : Array Value) (w : World), (Instr.makeFunc fn first cap).run Try.prog w = .ok (.func fn first cap) w := fun _ _ _ _ => rfl
  have HLT : Hid (∀ x ∈ l, x < 256) := hv.ok_
  obtain ⟨A, c, rfl, -, -, -, -, -⟩ := id hv
  obtain ⟨z, hz⟩ : ∃ z, w.heap.size = z := ⟨_, rfl⟩
  obtain ⟨W1, hW1⟩ : ∃ W, w.alloc (.cells #[.slice none 0 0] 24) = W := ⟨_, rfl⟩
  have z1 : W1.heap[z]? = some (.cells #[.slice none 0 0] 24 (0, 0)) := by rw [← hW1, ← hz]; exact heap_alloc_new w _
  have s1 : W1.heap.size = z + 1 := by rw [← hW1, ← hz]; simp
  have b1 : Below z w W1 := by rw [← hW1, hz.symm]; exact (Below.refl _ w).alloc (Nat.le_refl _) _
  obtain ⟨W2, hW2⟩ : ∃ W, W1.alloc (.cells #[.int .i64 0, .int .i64 0] 61) = W := ⟨_, rfl⟩
  have z2 : W2.heap[z]? = some (.cells #[.slice none 0 0] 24 (0, 0)) := by rw [← hW2, heap_alloc_old W1 _ (by omega)]; exact z1
  have y2 : W2.heap[z + 1]? = some (.cells #[.int .i64 0, .int .i64 0] 61 (0, 0)) := by rw [← hW2, ← s1]; exact heap_alloc_new W1 _
  have s2 : W2.heap.size = z + 2 := by rw [← hW2]; simp [s1]
  have b2 : Below z w W2 := by rw [← hW2]; exact b1.alloc (by omega) _
  obtain ⟨W3, hW3⟩ : ∃ W, W2.alloc (.cells #[.slice A l.length c, .int .i64 0, .slice none 0 0, .slice none 0 0] 89) = W := ⟨_, rfl⟩
  have HR3 : Hid (Rdp W3 (z + 2) (.slice A l.length c) (.slice none 0 0) (.slice none 0 0) 0) := by unfold Hid Rdp; rw [← hW3, ← s2]; exact heap_alloc_new W2 _
  have hz3 : W3.heap[z]? = some (.cells #[.slice none 0 0] 24 (0, 0)) := by rw [← hW3, heap_alloc_old W2 _ (by omega)]; exact z2
  have hy3 : W3.heap[z + 1]? = some (.cells #[.int .i64 0, .int .i64 0] 61 (0, 0)) := by rw [← hW3, heap_alloc_old W2 _ (by omega)]; exact y2
  have hb3 : Below z w W3 := by rw [← hW3]; exact b2.alloc (by omega) _
  have hs3 : z + 3 ≤ W3.heap.size := by rw [← hW3]; simp [s2]
  have HV : Hid (∀ w', Below z w w' → Lv yK w' (z + 2) (.slice A l.length c) l) := fun w' hb => (hv.below_ hb (by omega)).mono_ (by omega)
  -- what stays: the two boxes, all that was there, and the room
  obtain ⟨ST, hST⟩ : ∃ ST : World → Prop, ST = fun w' => w'.heap[z]? = some (.cells #[.slice none 0 0] 24 (0, 0)) ∧ w'.heap[z + 1]? = some (.cells #[.int .i64 0, .int .i64 0] 61 (0, 0)) ∧ Below z w w' ∧ z + 3 ≤ w'.heap.size := ⟨_, rfl⟩
  have H3 : Hid (ST W3) := by unfold Hid; rw [hST]; exact ⟨hz3, hy3, hb3, hs3⟩
  have HST := Lib.hid hST
  have HSB : Hid (∀ w', ST w' → Below z w w' ∧ z + 3 ≤ w'.heap.size) := fun w' h => by rw [hST] at h; exact ⟨h.2.2.1, h.2.2.2⟩
  have HST2 : Hid (∀ w' w'' F, ST w' → Turned F w' w'' → (∀ k, F k → z + 2 ≤ k) → ST w'') := fun w' w'' F h ht hF => by
    rw [hST] at h ⊢
    obtain ⟨q1, q2, q3, q4⟩ := h
    exact ⟨(ht.block z (by omega) (fun h => by have := hF z h; omega)).trans q1, (ht.block (z + 1) (by omega) (fun h => by have := hF (z + 1) h; omega)).trans q2, q3.trans (ht.below (by omega) (fun k h => by have := hF k h; omega)), Nat.le_trans q4 ht.size⟩
  have HG : Hid (∀ w', ST w' → ∀ e x, Vf.getE l = ([], x, e) → ∀ a : Act, a.defers = [rdD z] → a.tmps.getD 2 undef = .pointer (some ⟨z, 0, none⟩) → a.tmps.getD 3 undef = .pointer (some ⟨z + 1, 0, none⟩) →
      bodyPostD Try.prog Try.f33 (IsRe (Vf.getE l) w) (.panic [{ v := faultV e x, recovered := false }]) a w') := fun w' h e x he a a1 a2 a3 => by
    rw [hST] at h
    exact read_fault a1 a2 a3 h.1 h.2.1 hz h.2.2.1 he
  have HZ := Lib.hid hz
  have HM := Lib.hid (pvopen_any (z + 2) _ _ _ 0 l W3 HR3.out (HV.out W3 hb3))
  unfold Vf.magicP at HM
  clear hv hB z1 b1 z2 b2 hz3 hy3 hb3 hs3 y2 hST
  by_cases hm : l.take 6 ≠ Vf.magic
  · rw [if_neg hm] at HM
    have HX : Hid (Vf.getE l = ([], 0, 5)) := Vf.getE_magic hm
    clear hm
    go_enter_defers Try.func33, Try.ntmps33
    go_wp2_with (fail)
    refine (HM.out).mono ?_
    rintro e w3 ⟨rfl, ht⟩
    have H4 := Lib.hid (HST2.out _ _ _ H3.out ht (fun k e => by have e : k = z + 2 := e; omega))
    clear ht
    unfold Fault
    go_wp2
    exact HG.out _ H4.out _ _ HX.out _ rfl rfl rfl
  have hm : l.take 6 = Vf.magic := Classical.not_not.1 hm
  rw [if_pos hm] at HM
  have HMG := Lib.hid hm
  clear hm
  go_enter_defers Try.func33, Try.ntmps33
  go_wp2_with (fail)
  refine (HM.out).mono ?_
  rintro e w3 ⟨rfl, hr4, ht⟩
  have H4 := Lib.hid (HST2.out _ _ _ H3.out ht (fun k e => by have e : k = z + 2 := e; omega))
  have HR4 := Lib.hid hr4
  unfold noV
  have HN := Lib.hid (pvnum_any (z + 2) _ _ _ 6 4096 l w3 HR4.out (HV.out w3 (HSB.out _ H4.out).1))
  clear hr4 ht HM HR3 H3 hW1 hW2 hW3 s1 s2
  cases hn : Vf.num l 6 4096 with
  | bad er x =>
    rw [hn] at HN
    have HX : Hid (Vf.getE l = ([], x, er)) := Vf.getE_num HMG.out hn
    clear hn
    go_wp2_with (fail)
    refine (HN.out).mono ?_
    rintro e w4 ⟨rfl, ht⟩
    have H5 := Lib.hid (HST2.out _ _ _ H4.out ht (fun k e => by have e : k = z + 2 := e; omega))
    clear ht
    unfold Fault
    go_wp2
    exact HG.out _ H5.out _ _ HX.out _ rfl rfl rfl
  | got n a0 =>
    rw [hn] at HN
    have hle := num_le hn
    have HA0 : Hid (a0 ≤ l.length) := (Vf.num_got HLT.out hn).2.2.2.1
    have HP0 := Lib.hid (Vf.Prog.start hn)
    clear hn
    go_wp2_with (fail)
    refine (HN.out).mono ?_
    rintro e w4 ⟨rfl, hr4, ht⟩
    have H5 := Lib.hid (HST2.out _ _ _ H4.out ht (fun k e => by have e : k = z + 2 := e; omega))
    have HR5 := Lib.hid hr4
    unfold u64V
    clear hr4 ht HN HR4 H4
    go_wp2
    go_loopw [13] (fun i wr => ∃ (k Sa : Nat), k ≤ n ∧ i = .int .u64 k ∧ Hid (ST wr) ∧ Hid (Sa ≤ l.length) ∧
      (∃ Q A1 c1 A2 c2, Hid (Q.length = k) ∧ Hid (Rdp wr (z + 2) (.slice A l.length c) (.slice A2 k c2) (.slice A1 k c1) Sa) ∧ Hid (OwnL iK wr (z + 3) (.slice A1 k c1) (Q.map fun q => ((q.2 : Nat) : Int))) ∧ Hid (OwnL pK wr (z + 3) (.slice A2 k c2) (Q.map Prod.fst)) ∧ Hid (Apart (.slice A1 k c1) (.slice A2 k c2)) ∧ Hid (Vf.Prog l n k Q Sa))) (fun i _ => n - (intOf i).toNat)
    case atStart => exact ⟨0, a0, Nat.zero_le _, rfl, H5.out, HA0.out, [], none, 0, none, 0, rfl, HR5.out, OwnL.nil_ _ _ _, OwnL.nil_ _ _ _, Apart.nil_ _, HP0.out⟩
    case round =>
      obtain ⟨k, Sa, hk, rfl, HSr, HAL, Q, A1, c1, A2, c2, HQL, HR, HO1, HO2, HAP, HPR⟩ := hrel
      clear H5 HR5 HA0 HP0
      by_cases hlt : k < n
      · have g1 : (k : Int) < (n : Int) := by omega
        have d1 := HR.out.at_
        have d3 := HR.out.qs
        have HIa : Hid (I64 ((Sa : Nat) : Int)) := by unfold Hid I64; have := HAL.out; omega
        have HL1 : Hid ((Q.map fun q => ((q.2 : Nat) : Int)).length = k) := by unfold Hid; rw [List.length_map]; exact HQL.out
        have HL2 : Hid ((Q.map Prod.fst).length = k) := by unfold Hid; rw [List.length_map]; exact HQL.out
        have wk : IntKind.u64.wrap ((k : Int) + 1) = (k : Int) + 1 := by rw [IntKind.wrap_u64]; omega
        have HN1 : Hid (¬ (Value.slice A1 k c1).ownBlock = some (z + 2)) := fun e => by have := (HO1.out.lt_ _ e).1; omega
        have HF1 : Hid (∀ j, (Value.slice A1 k c1).ownBlock = some j → z + 2 ≤ j) := fun j e => by have := (HO1.out.lt_ _ e).1; omega
        have HT6 : Hid (∀ w7, wr.drew.grownBy w7 (Value.slice A1 k c1).ownBlock → Turned (fun j => (Value.slice A1 k c1).ownBlock = some j) wr w7) := fun w7 hG => by
          have h := Turned.of_grown hG
          exact ⟨h.os, h.tape, h.output, h.size, h.block⟩
        have d3a : (wr.alloc (.cells #[.int .i64 (Sa : Nat)] 3)).cell? ⟨z + 2, 3, none⟩ = some (.slice A1 k c1) := (((Below.refl wr.heap.size wr).alloc (Nat.le_refl _) _).cell (p := ⟨z + 2, 3, none⟩) HR.out.lt_).trans d3
        go_upto_region 6 with (fail)
        go_cut [13] from 13 to 39 (fun i wx => i = .int .u64 (k : Nat) ∧ Hid (ST wx) ∧ ∃ A3 c3, Hid (Rdp wx (z + 2) (.slice A l.length c) (.slice A2 k c2) (.slice A3 (k + 1) c3) Sa) ∧ Hid (OwnL iK wx (z + 3) (.slice A3 (k + 1) c3) ((Q.map fun q => ((q.2 : Nat) : Int)) ++ [((Sa : Nat) : Int)])) ∧ Hid (OwnL pK wx (z + 3) (.slice A2 k c2) (Q.map Prod.fst)) ∧ Hid (Apart (.slice A3 (k + 1) c3) (.slice A2 k c2)))
        case first =>
          refine wp_region_noPanic ?_
          go_region_law (refine step_push_m wr.drew iK rfl _ _ rfl (z + 3) (.slice A1 k c1) rfl (Q.map fun q => ((q.2 : Nat) : Int)) HO1.out.drew_ rfl ((Sa : Nat) : Int) HIa.out _ rfl _ rfl (by rw [HL1.out]; show _ * 8 ≤ _; omega) (by rw [HL1.out]; simp only [maxLen]; omega) (HSB.out _ HSr.out).2 ?_; rw [HL1.out]; intro A3 c3 w7 hA hG hM; have HT7 := Lib.hid (HT6.out w7 hG); have HR7 := Lib.hid (HR.out.turned_ HT7.out HN1.out); have d7 := HR7.out.qs; have f7 := HR7.out.cool 3; have HO17 := Lib.hid hA; have HM7 := Lib.hid hM; clear hA hG hM)
          all_goals (
            refine NoPanic.normal ?_
            have HT8 : Hid (Turned (fun j => j = z + 2 ∨ (Value.slice A1 k c1).ownBlock = some j) wr (w7.setCell ⟨z + 2, 3, none⟩ (.slice A3 (k + 1) c3))) := (HT7.out.mono (fun j _ e => .inr e)).setCell (p := ⟨z + 2, 3, none⟩) (fun _ => .inl rfl) _
            have HS8 := Lib.hid (HST2.out _ _ _ HSr.out HT8.out (fun j e => e.elim (fun e => by omega) (HF1.out j)))
            have HR8 := Lib.hid (HR7.out.setQ (.slice A3 (k + 1) c3))
            have HO18 := Lib.hid (HO17.out.of_block (w' := w7.setCell ⟨z + 2, 3, none⟩ (.slice A3 (k + 1) c3)) (fun j hj => heap_setCell_other _ _ _ _ (by have := (HO17.out.lt_ j hj).1; show j ≠ z + 2; omega)))
            have HO28 := Lib.hid (HO2.out.turned_ HT8.out (fun j hj e => e.elim (fun e => by have := (HO2.out.lt_ j hj).1; omega) (fun e => HAP.out j e hj)))
            have HAP8 := Lib.hid ((HAP.out.symm.moved HM7.out (fun j hj => (HO2.out.lt_ j hj).2)).symm)
            clear HT7 HR7 d7 f7 HO17 HM7 HT8
            go_wp2_with (fail)
            go_meet
            exact ⟨rfl, HS8.out, A3, c3, HR8.out, HO18.out, HO28.out, HAP8.out⟩)
        case rest =>
          obtain ⟨rfl, HS8, A3, c3, HR8, HO18, HO28, HAP8⟩ := hcut
          clear HSr HR HO1 HO2 HAP d1 d3 d3a HN1 HF1 HT6 HIa
          have HRd : Hid (Rdp wc.drew (z + 2) (.slice A l.length c) (.slice A2 k c2) (.slice A3 (k + 1) c3) Sa) := HR8.out
          have HSd : Hid (ST wc.drew) := HST2.out _ _ (fun _ => False) HS8.out (Turned.refl _ _).drew (fun k h => h.elim)
          have HC := Lib.hid (pvpiece_any (z + 2) _ _ _ Sa l wc.drew HRd.out (HV.out _ (HSB.out _ HSd.out).1) HAL.out)
          have d2 := HR8.out.ps
          cases hp : Vf.rdPc l Sa with
          | bad er x =>
            rw [hp] at HC
            have HX := Lib.hid (HPR.out.bad HMG.out hlt hp)
            clear hp
            go_upto_region 7 with (fail)
            refine Code.wp_mono (Q := PanD [rdD z] (.pointer (some ⟨z, 0, none⟩)) (.pointer (some ⟨z + 1, 0, none⟩)) (fun c w' => c = [{ v := faultV er x, recovered := false }] ∧ ST w')) ?_ ?_
            · rintro e a w' h
              cases e with
              | panic c =>
                obtain ⟨q1, q2, q3, rfl, q5⟩ := h
                have HQ := HG.out w' q5 er x HX.out a q1 q2 q3
                go_wp2
                exact HQ
              | _ => exact h.elim
            refine wp_region_held_drew (S := fun w' => w'.cell? ⟨z + 2, 2, none⟩ = some (.slice A2 k c2)) (by kernel_rfl) d2 (fun hHeld => ?_)
            refine wpAnyH_take (i := 0) (v := ?_) rfl (by kernel_rfl) (by kernel_rfl) (by kernel_rfl) (PanD.put (by decide) (by decide)) (Or.inl ⟨by rfl, (by intro w hSw; go_simp; try with_reducible rfl)⟩) (by assumption) ?_
            refine wpAnyH_take (i := 1) (v := ?_) rfl (by kernel_rfl) (by kernel_rfl) (by kernel_rfl) (PanD.put (by decide) (by decide)) (Or.inl ⟨by rfl, (by intro w hSw; go_simp; try with_reducible rfl)⟩) (by assumption) ?_
            refine wpAnyH_take (i := 2) (v := ?_) rfl (by kernel_rfl) (by kernel_rfl) (by kernel_rfl) (PanD.put (by decide) (by decide)) (Or.inl ⟨by rfl, (by intro w hSw; go_simp; try with_reducible rfl)⟩) (by assumption) ?_
            refine wpAnyH_take (i := 3) (v := ?_) rfl (by kernel_rfl) (by kernel_rfl) (by kernel_rfl) (PanD.put (by decide) (by decide)) (Or.inl ⟨by rfl, (by intro w hSw; go_simp; try with_reducible rfl)⟩) (by assumption) ?_
            refine wpAnyH_take (i := 4) (v := ?_) rfl (by kernel_rfl) (by kernel_rfl) (by kernel_rfl) (PanD.put (by decide) (by decide)) (Or.inl ⟨by rfl, (by intro w hSw; go_simp; try with_reducible rfl)⟩) (by assumption) ?_
            refine wpAnyH_take (i := 5) (v := ?_) rfl (by kernel_rfl) (by kernel_rfl) (by kernel_rfl) (PanD.put (by decide) (by decide)) (Or.inl ⟨by rfl, (by intro w hSw; go_simp; try with_reducible rfl)⟩) (by assumption) ?_
            simp only [Act.put, List.setIfInBounds_toArray]
            refine wpAnyH_ready (rs := [6]) (by kernel_rfl) (by simp) ?_
            refine AllReadyH.cons rfl (fun K hK => ?_) AllReadyH.nil
            clear hK
            go_simp
            refine HC.out.mono ?_
            rintro e w8 ⟨rfl, ht⟩
            have H9 := HST2.out _ _ _ HSd.out ht (fun k e => by have e : k = z + 2 := e; omega)
            unfold Fault
            exact ⟨rfl, rfl, rfl, rfl, H9⟩
          | got pp a1 =>
            rw [hp] at HC
            have hgot := Vf.rdPc_got HLT.out hp
            have HA1 : Hid (a1 ≤ l.length) := hgot.2.2.1
            have HP1 := Lib.hid (HPR.out.step hlt hp)
            have HOK : Hid (PcOk pp) := Vf.fits_ok hgot.1
            clear hp hgot
            obtain ⟨pj, pb, pl, pr, pk⟩ := pp
            have HC2 : Hid (Calls Try.prog 54 #[.pointer (some ⟨z + 2, 0, none⟩)] wc.drew (fun e w' => e = .returned (.agg #[.bool pj, .int .u8 (pb : Nat), .int .i64 pl, .int .i64 pr, .int .u32 (pk : Nat)]) ∧ Rdp w' (z + 2) (.slice A l.length c) (.slice A2 k c2) (.slice A3 (k + 1) c3) a1 ∧ Turned (fun j => j = z + 2) wc.drew w')) := HC.out
            have HF2 : Hid (∀ j, (Value.slice A2 k c2).ownBlock = some j → z + 3 ≤ j) := fun j e => (HO28.out.lt_ _ e).1
            clear HC
            go_upto_region 7 with (fail)
            refine wp_region_noPanic ?_
            go_region_law (first
              | (refine step_push_m w8 pK rfl _ _ rfl (z + 3) (.slice A2 k c2) rfl (Q.map Prod.fst) HO29.out rfl ⟨pj, pb, pl, pr, pk⟩ HOK.out _ rfl _ rfl (by rw [HL2.out]; show _ * 32 ≤ _; omega) (by rw [HL2.out]; simp only [maxLen]; omega) (HSB.out _ HS9.out).2 ?_; rw [HL2.out]; intro A4 c4 w9 hA hG hM; have HTa := Lib.hid (Turned.of_grown hG); have HRa := Lib.hid (HR9.out.turned_ HTa.out (fun e => by have := HF2.out _ e; omega)); have d9 := HRa.out.ps; have f9 := HRa.out.cool 2; have HO2a := Lib.hid hA; have HMa := Lib.hid hM; clear hA hG hM)
              | (go_simp; go_at_call 54; (with_reducible refine HC2.out.mono ?_); rintro e w8 ⟨rfl, hr8, ht8⟩; have d8 := hr8.ps; have d8a : (w8.alloc (.cells #[.bool pj, .int .u8 (pb : Nat), .int .i64 pl, .int .i64 pr, .int .u32 (pk : Nat)] 45)).cell? ⟨z + 2, 2, none⟩ = some (.slice A2 k c2) := (((Below.refl w8.heap.size w8).alloc (Nat.le_refl _) _).cell (p := ⟨z + 2, 2, none⟩) hr8.lt_).trans d8; have HR9 := Lib.hid hr8; have HS9 := Lib.hid (HST2.out _ _ _ HSd.out ht8 (fun k e => by have e : k = z + 2 := e; omega)); have HT9 := Lib.hid ht8; have HO29 := Lib.hid (HO28.out.drew_.turned_ ht8 (fun j hj e => by have e : j = z + 2 := e; have := HF2.out j hj; omega)); clear hr8 ht8))
            all_goals (
              refine NoPanic.normal ?_
              have HTf : Hid (Turned (fun j => j = z + 2 ∨ (Value.slice A2 k c2).ownBlock = some j) w8 (w9.setCell ⟨z + 2, 2, none⟩ (.slice A4 (k + 1) c4))) := (HTa.out.mono (fun j _ e => .inr e)).setCell (p := ⟨z + 2, 2, none⟩) (fun _ => .inl rfl) _
              have HSf := Lib.hid (HST2.out _ _ _ HS9.out HTf.out (fun j e => e.elim (fun e => by omega) (fun e => by have := HF2.out j e; omega)))
              have HRf := Lib.hid (HRa.out.setP (.slice A4 (k + 1) c4))
              have HO19 := Lib.hid (HO18.out.drew_.turned_ HT9.out (fun j hj e => by have e : j = z + 2 := e; have := (HO18.out.lt_ j hj).1; omega))
              have HO1f := Lib.hid (HO19.out.turned_ HTf.out (fun j hj e => e.elim (fun e => by have := (HO18.out.lt_ j hj).1; omega) (fun e => HAP8.out j hj e)))
              have HO2f := Lib.hid (HO2a.out.of_block (w' := w9.setCell ⟨z + 2, 2, none⟩ (.slice A4 (k + 1) c4)) (fun j hj => heap_setCell_other _ _ _ _ (by have := (HO2a.out.lt_ j hj).1; show j ≠ z + 2; omega)))
              have HAPf := Lib.hid (HAP8.out.moved HMa.out (fun j hj => (HO19.out.lt_ j hj).2))
              clear HTf HRa d9 f9 HO2a HMa HTa HT9 HO29 HS9 HR9 d8 d8a HO19 HC2 d2 HRd HSd HS8 HR8 HO18 HO28 HAP8
              go_wp2
              go_roundw
              case rel => exact ⟨k + 1, a1, by omega, by go_num, HSf.out, HA1.out, Q ++ [(⟨pj, pb, pl, pr, pk⟩, Sa)], A3, c3, A4, c4, by unfold Hid; rw [List.length_append, HQL.out]; rfl, HRf.out, by rw [List.map_append]; exact HO1f.out, by rw [List.map_append]; exact HO2f.out, HAPf.out, HP1⟩
              case measure => simp [intOf]; omega)
      · obtain rfl : k = n := by omega
        have g1 : ¬ (k : Int) < (k : Int) := by omega
        have d1 := HR.out.at_
        have d3 := HR.out.qs
        have HIa : Hid (I64 ((Sa : Nat) : Int)) := by unfold Hid I64; have := HAL.out; omega
        have HL1 : Hid ((Q.map fun q => ((q.2 : Nat) : Int)).length = k) := by unfold Hid; rw [List.length_map]; exact HQL.out
        have HL2 : Hid ((Q.map Prod.fst).length = k) := by unfold Hid; rw [List.length_map]; exact HQL.out
        have HN1 : Hid (¬ (Value.slice A1 k c1).ownBlock = some (z + 2)) := fun e => by have := (HO1.out.lt_ _ e).1; omega
        have HF1 : Hid (∀ j, (Value.slice A1 k c1).ownBlock = some j → z + 2 ≤ j) := fun j e => by have := (HO1.out.lt_ _ e).1; omega
        have HT6 : Hid (∀ w7, wr.drew.grownBy w7 (Value.slice A1 k c1).ownBlock → Turned (fun j => (Value.slice A1 k c1).ownBlock = some j) wr w7) := fun w7 hG => by
          have h := Turned.of_grown hG
          exact ⟨h.os, h.tape, h.output, h.size, h.block⟩
        have d3a : (wr.alloc (.cells #[.int .i64 (Sa : Nat)] 3)).cell? ⟨z + 2, 3, none⟩ = some (.slice A1 k c1) := (((Below.refl wr.heap.size wr).alloc (Nat.le_refl _) _).cell (p := ⟨z + 2, 3, none⟩) HR.out.lt_).trans d3
        go_upto_region 9 with (fail)
        go_cut [13] from 13 to 57 (fun i wx => i = .int .u64 (k : Nat) ∧ Hid (ST wx) ∧ ∃ A3 c3, Hid (Rdp wx (z + 2) (.slice A l.length c) (.slice A2 k c2) (.slice A3 (k + 1) c3) Sa) ∧ Hid (OwnL iK wx (z + 3) (.slice A3 (k + 1) c3) ((Q.map fun q => ((q.2 : Nat) : Int)) ++ [((Sa : Nat) : Int)])) ∧ Hid (OwnL pK wx (z + 3) (.slice A2 k c2) (Q.map Prod.fst)) ∧ Hid (Apart (.slice A3 (k + 1) c3) (.slice A2 k c2)))
        case first =>
          refine wp_region_noPanic ?_
          go_region_law (refine step_push_m wr.drew iK rfl _ _ rfl (z + 3) (.slice A1 k c1) rfl (Q.map fun q => ((q.2 : Nat) : Int)) HO1.out.drew_ rfl ((Sa : Nat) : Int) HIa.out _ rfl _ rfl (by rw [HL1.out]; show _ * 8 ≤ _; omega) (by rw [HL1.out]; simp only [maxLen]; omega) (HSB.out _ HSr.out).2 ?_; rw [HL1.out]; intro A3 c3 w7 hA hG hM; have HT7 := Lib.hid (HT6.out w7 hG); have HR7 := Lib.hid (HR.out.turned_ HT7.out HN1.out); have d7 := HR7.out.qs; have f7 := HR7.out.cool 3; have HO17 := Lib.hid hA; have HM7 := Lib.hid hM; clear hA hG hM)
          all_goals (
            refine NoPanic.normal ?_
            have HT8 : Hid (Turned (fun j => j = z + 2 ∨ (Value.slice A1 k c1).ownBlock = some j) wr (w7.setCell ⟨z + 2, 3, none⟩ (.slice A3 (k + 1) c3))) := (HT7.out.mono (fun j _ e => .inr e)).setCell (p := ⟨z + 2, 3, none⟩) (fun _ => .inl rfl) _
            have HS8 := Lib.hid (HST2.out _ _ _ HSr.out HT8.out (fun j e => e.elim (fun e => by omega) (HF1.out j)))
            have HR8 := Lib.hid (HR7.out.setQ (.slice A3 (k + 1) c3))
            have HO18 := Lib.hid (HO17.out.of_block (w' := w7.setCell ⟨z + 2, 3, none⟩ (.slice A3 (k + 1) c3)) (fun j hj => heap_setCell_other _ _ _ _ (by have := (HO17.out.lt_ j hj).1; show j ≠ z + 2; omega)))
            have HO28 := Lib.hid (HO2.out.turned_ HT8.out (fun j hj e => e.elim (fun e => by have := (HO2.out.lt_ j hj).1; omega) (fun e => HAP.out j e hj)))
            have HAP8 := Lib.hid ((HAP.out.symm.moved HM7.out (fun j hj => (HO2.out.lt_ j hj).2)).symm)
            clear HT7 HR7 d7 f7 HO17 HM7 HT8
            go_wp2_with (fail)
            go_meet
            exact ⟨rfl, HS8.out, A3, c3, HR8.out, HO18.out, HO28.out, HAP8.out⟩)
        case rest =>
          obtain ⟨rfl, HS8, A3, c3, HR8, HO18, HO28, HAP8⟩ := hcut
          clear HSr HR HO1 HO2 HAP d1 d3 d3a HN1 HF1 HT6 HIa
          have HC := Lib.hid (pvsum_any (z + 2) _ _ _ Sa l wc HR8.out (HV.out wc (HSB.out _ HS8.out).1) HAL.out)
          have HD := Lib.hid (Vf.getE_done HMG.out HPR.out)
          clear hlt hk
          cases hsm : Vf.sumP l Sa with
          | bad er x =>
            rw [hsm] at HC
            have HX := Lib.hid (HD.out.1 er x hsm).1
            clear hsm HD
            go_wp2_with (fail)
            refine (HC.out).mono ?_
            rintro e w8 ⟨rfl, ht⟩
            have H9 := Lib.hid (HST2.out _ _ _ HS8.out ht (fun k e => by have e : k = z + 2 := e; omega))
            clear ht
            unfold Fault
            go_wp2
            exact HG.out _ H9.out _ _ HX.out _ rfl rfl rfl
          | got u a1 =>
            rw [hsm] at HC
            have HE := Lib.hid (HD.out.2 a1 hsm)
            obtain ⟨ec, ic, hck⟩ : ∃ x y, Vo.check (Q.map Prod.fst) = (x, y) := ⟨_, _, rfl⟩
            have hix := Vo.check_ix (Q.map Prod.fst)
            rw [hck, List.length_map] at hix
            simp only at hix
            obtain ⟨x, hx⟩ : ∃ x, (match Q[ic]? with | some q => q.2 | none => Sa) = x := ⟨_, rfl⟩
            have HE2 : Hid (Vf.getE l = if ec ≠ 0 then ([], x, 11) else (Q.map Prod.fst, 0, 0)) := by
              unfold Hid
              rw [HE.out, hck, ← hx]
            have hdx : ((Q.map fun q => ((q.2 : Nat) : Int)) ++ [((Sa : Nat) : Int)])[ic]? = some ((x : Nat) : Int) := by
              rcases Nat.lt_or_ge ic Q.length with h | h
              · rw [List.getElem?_append_left (by rw [List.length_map]; exact h), List.getElem?_map, List.getElem?_eq_getElem h]
                rw [List.getElem?_eq_getElem h] at hx
                simp only at hx
                simp [hx]
              · have h' : ic = Q.length := by omega
                rw [List.getElem?_append_right (by rw [List.length_map]; exact h), List.length_map, h', Nat.sub_self]
                rw [List.getElem?_eq_none h] at hx
                simp only at hx
                simp [hx]
            have HDX := Lib.hid hdx
            have HCK := Lib.hid hck
            clear hsm HD HE hix hx hdx hck
            go_wp2_with (fail)
            refine (HC.out).mono ?_
            rintro e w8 ⟨rfl, hr9, ht⟩
            unfold noV
            have HS9 := Lib.hid (HST2.out _ _ _ HS8.out ht (fun k e => by have e : k = z + 2 := e; omega))
            have HO19 := Lib.hid (HO18.out.turned_ ht (fun j hj e => by have e : j = z + 2 := e; have := (HO18.out.lt_ j hj).1; omega))
            have HO29 := Lib.hid (HO28.out.turned_ ht (fun j hj e => by have e : j = z + 2 := e; have := (HO28.out.lt_ j hj).1; omega))
            have HVC := Lib.hid (pvvoc_any (z + 2) _ _ _ a1 (Q.map Prod.fst) _ w8 hr9 HO29.out.form_ HO19.out.form_ ec ic x HCK.out (fun _ => HDX.out))
            clear hr9 ht HC HR8 HO18 HO28 HS8 HAP8 HDX HCK
            go_wp2_with (fail)
            refine (HVC.out).mono ?_
            rintro e w9 ⟨rfl, hb9⟩
            have hs9 := (HSB.out _ HS9.out).2
            have HSa := Lib.hid (HST2.out _ _ _ HS9.out (Turned.of_below hb9) (fun k e => by have e : w8.heap.size ≤ k := e; omega))
            have HO2a := Lib.hid (HO29.out.below_ hb9 (Nat.le_refl _))
            clear hb9 HVC HO19 HO29 HS9 hs9
            by_cases hec : ec = 0
            · rw [if_pos hec]
              have HX : Hid (Vf.getE l = (Q.map Prod.fst, 0, 0)) := by unfold Hid; rw [HE2.out, if_neg (by simp [hec])]
              have hst := HSa.out
              rw [HST.out] at hst
              obtain ⟨k1, k2, hbz, hsz⟩ := hst
              have c1 : w9.cell? ⟨z, 0, none⟩ = some (.slice none 0 0) := by rw [cell_of_row _ z 0 _ _ _ k1]; rfl
              have c2' : w9.cell? ⟨z + 1, 0, none⟩ = some (.int .i64 0) := by rw [cell_of_row _ (z + 1) 0 _ _ _ k2]; rfl
              have c3' : w9.cell? ⟨z + 1, 1, none⟩ = some (.int .i64 0) := by rw [cell_of_row _ (z + 1) 1 _ _ _ k2]; rfl
              have f1 : w9.frozen? ⟨z, 0, none⟩ = false := frozen_of_row _ z 0 _ _ k1
              have f2 : w9.frozen? ⟨z + 1, 0, none⟩ = false := frozen_of_row _ (z + 1) 0 _ _ k2
              have f3 : w9.frozen? ⟨z + 1, 1, none⟩ = false := frozen_of_row _ (z + 1) 1 _ _ k2
              obtain ⟨W5, hW5⟩ : ∃ W5, ((w9.setCell ⟨z, 0, none⟩ (.slice A2 k c2)).setCell ⟨z + 1, 0, none⟩ (.int .i64 0)).setCell ⟨z + 1, 1, none⟩ (.int .i64 0) = W5 := ⟨_, rfl⟩
              have m1 : W5.heap[z]? = some (.cells #[.slice A2 k c2] 24 (0, 0)) := by
                rw [← hW5, heap_setCell_other _ ⟨z + 1, 1, none⟩ z _ (by show z ≠ z + 1; omega), heap_setCell_other _ ⟨z + 1, 0, none⟩ z _ (by show z ≠ z + 1; omega), heap_setCell_same _ z 0 _ _ _ k1]; rfl
              have m2 : W5.heap[z + 1]? = some (.cells #[.int .i64 0, .int .i64 0] 61 (0, 0)) := by
                rw [← hW5, heap_setCell_same _ (z + 1) 1 _ _ _ (heap_setCell_same _ (z + 1) 0 _ _ _ ((heap_setCell_other _ ⟨z, 0, none⟩ (z + 1) _ (by show z + 1 ≠ z; omega)).trans k2))]; rfl
              have t5 : Turned (fun k => k = z ∨ k = z + 1) w9 W5 := by
                rw [← hW5]
                exact (((Turned.refl _ w9).setCell (p := ⟨z, 0, none⟩) (fun _ => .inl rfl) _).setCell (p := ⟨z + 1, 0, none⟩) (fun _ => .inr rfl) _).setCell (p := ⟨z + 1, 1, none⟩) (fun _ => .inr rfl) _
              have HM := Lib.hid (And.intro m1 m2)
              have HBF : Hid (Below w.heap.size w W5) := by unfold Hid; rw [HZ.out]; exact hbz.trans (t5.below (by omega) (fun j e => by omega))
              have HOF := Lib.hid ((HO2a.out.turned_ t5 (fun j hj e => by have := (HO2a.out.lt_ j hj).1; omega)).mono_ (base' := w.heap.size) (by have := HZ.out; omega))
              clear k1 k2 hbz hsz m1 m2 t5 HE2 HSa HO2a hec
              go_wp2
              show Leaves _ _ _ _ _ _ _
              refine leaves_cons (f := 51) (args := #[.pointer (some ⟨z, 0, none⟩), .pointer (some ⟨z + 1, 0, none⟩)]) (by simp) (by simp [go_sem]) ?_
              refine (pcatch_idle _ _ W5).mono ?_
              rintro e u' w6 ⟨rfl, rfl, rfl⟩
              have hl : (Vf.getE l).1.length = k := by rw [HX.out]; show (Q.map Prod.fst).length = k; rw [List.length_map]; exact HQL.out
              refine ⟨_, results_box2 rfl _ w6 z (z + 1) _ _ _ _ _ rfl rfl HM.out.1 HM.out.2, A2, c2, ?_, ?_, HBF.out⟩
              · rw [hl, HX.out]; rfl
              · rw [hl, HX.out]; exact HOF.out
            · rw [if_neg hec]
              have HX : Hid (Vf.getE l = ([], x, 11)) := by unfold Hid; rw [HE2.out, if_pos hec]
              clear HE2 hec
              unfold Fault
              go_wp2
              exact HG.out _ HSa.out _ _ HX.out _ rfl rfl rfl
end Go.Proofs.Ytglkhgchbnkekaa
namespace Go.Proofs.Ytglkhgchbnkekaa
open Go.RowKit
set_option linter.unusedVariables false

theorem results_vce {fn : Func} {p q r : Tmp} (h : fn.results = #[.cell p 24, .tmp q, .tmp r]) (tmps : Array Value) (w : World) (g1 : Nat) (u x y : Value) (t1 : TypeId)
    (hp : tmps.getD p undef = .pointer (some ⟨g1, 0, none⟩)) (hq : tmps.getD q undef = x) (hr : tmps.getD r undef = y)
    (h1 : w.heap[g1]? = some (.cells #[u] t1 (0, 0))) :
    (results fn tmps).run Try.prog w = .ok (.tuple #[.agg #[u], x, y]) w := by
  have hp' : tmps[p]?.getD undef = .pointer (some ⟨g1, 0, none⟩) := by simpa using hp
  have hq' : tmps[q]?.getD undef = x := by simpa using hq
  have hr' : tmps[r]?.getD undef = y := by simpa using hr
  have c1 : w.cell? ⟨g1, 0, none⟩ = some u := by rw [cell_of_row _ g1 0 _ _ _ h1]; rfl
  simp [results, h, hp', hq', hr', asAddr, go_sem, c1]

set_option maxHeartbeats 4000000 in
theorem pvget_any (l : List Nat) (v : Value) (B : Nat) (w : World) (hv : Lv yK w B v l) (hB : B ≤ w.heap.size) (hl : l.length ≤ 140000) :
    Calls Try.prog 15 #[v] w (IsVG (Vf.getE l) w) := by
  obtain ⟨z, hz⟩ : ∃ z, w.heap.size = z := ⟨_, rfl⟩
  obtain ⟨W1, hW1⟩ : ∃ W, w.alloc (.cells #[.slice none 0 0] 24) = W := ⟨_, rfl⟩
  have z1 : W1.heap[z]? = some (.cells #[.slice none 0 0] 24 (0, 0)) := by rw [← hW1, ← hz]; exact heap_alloc_new w _
  have s1 : W1.heap.size = z + 1 := by rw [← hW1, ← hz]; simp
  have b1 : Below z w W1 := by rw [← hW1, hz.symm]; exact (Below.refl _ w).alloc (Nat.le_refl _) _
  have HC := Lib.hid (pread_any l v B W1 (hv.below_ b1 (by omega)) (by omega) hl)
  obtain ⟨A, c, rfl, -, -, -, -, -⟩ := id hv
  have H1 := Lib.hid z1
  have HB1 := Lib.hid b1
  have HS1 := Lib.hid s1
  have HZ := Lib.hid hz
  clear hv z1 b1 s1 hB hl
  go_enter Try.func15, Try.ntmps15
  go_wp2_with (fail)
  refine (HC.out).mono ?_
  rintro e w2 ⟨A2, c2, rfl, ho, hb⟩
  have k1 := (hb.block z (by have := HS1.out; omega)).trans H1.out
  have c1 : w2.cell? ⟨z, 0, none⟩ = some (.slice none 0 0) := by rw [cell_of_row _ z 0 _ _ _ k1]; rfl
  have f1 : w2.frozen? ⟨z, 0, none⟩ = false := frozen_of_row _ z 0 _ _ k1
  obtain ⟨r, hr⟩ : ∃ r, Vf.getE l = r := ⟨_, rfl⟩
  obtain ⟨P, x, e⟩ := r
  rw [hr] at ho ⊢
  simp only at ho ⊢
  obtain ⟨n, hn⟩ : ∃ n, P.length = n := ⟨_, rfl⟩
  have HN := Lib.hid hn
  rw [hn] at ho ⊢
  have hs2 := hb.size
  have hs1 := HS1.out
  obtain ⟨y, hy⟩ : ∃ y, w2.heap.size = y := ⟨_, rfl⟩
  have HY := Lib.hid hy
  obtain ⟨W3, hW3⟩ : ∃ W, w2.alloc (.cells #[.int .i64 0, .int .i64 0] 61) = W := ⟨_, rfl⟩
  obtain ⟨W4, hW4⟩ : ∃ W, W3.setCell ⟨z, 0, none⟩ (.slice A2 n c2) = W := ⟨_, rfl⟩
  have y3 : W3.heap[y]? = some (.cells #[.int .i64 0, .int .i64 0] 61 (0, 0)) := by rw [← hW3, ← hy]; exact heap_alloc_new w2 _
  have k3 : W3.heap[z]? = some (.cells #[.slice none 0 0] 24 (0, 0)) := by rw [← hW3, heap_alloc_old w2 _ (by omega)]; exact k1
  have t3 : Turned (fun k => k = z) w2 W3 := by rw [← hW3]; exact (Turned.refl _ w2).alloc _
  have c3 : W3.cell? ⟨z, 0, none⟩ = some (.slice none 0 0) := by rw [cell_of_row _ z 0 _ _ _ k3]; rfl
  have f3 : W3.frozen? ⟨z, 0, none⟩ = false := frozen_of_row _ z 0 _ _ k3
  have k4 : W4.heap[z]? = some (.cells #[.slice A2 n c2] 24 (0, 0)) := by rw [← hW4, heap_setCell_same W3 z 0 _ _ _ k3]; rfl
  have y4 : W4.heap[y]? = some (.cells #[.int .i64 0, .int .i64 0] 61 (0, 0)) := by rw [← hW4, heap_setCell_other W3 ⟨z, 0, none⟩ y _ (by show y ≠ z; omega)]; exact y3
  have t4 : Turned (fun k => k = z) w2 W4 := by rw [← hW4]; exact t3.setCell (p := ⟨z, 0, none⟩) (fun _ => rfl) _
  have c4a : W4.cell? ⟨y, 0, none⟩ = some (.int .i64 0) := by rw [cell_of_row _ y 0 _ _ _ y4]; rfl
  have c4b : W4.cell? ⟨y, 1, none⟩ = some (.int .i64 0) := by rw [cell_of_row _ y 1 _ _ _ y4]; rfl
  have f4a : W4.frozen? ⟨y, 0, none⟩ = false := frozen_of_row _ y 0 _ _ y4
  have f4b : W4.frozen? ⟨y, 1, none⟩ = false := frozen_of_row _ y 1 _ _ y4
  obtain ⟨W5, hW5⟩ : ∃ W, (W4.setCell ⟨y, 0, none⟩ (.int .i64 (e : Nat))).setCell ⟨y, 1, none⟩ (.int .i64 (x : Nat)) = W := ⟨_, rfl⟩
  have y5 : W5.heap[y]? = some (.cells #[.int .i64 (e : Nat), .int .i64 (x : Nat)] 61 (0, 0)) := by
    rw [← hW5, heap_setCell_same _ y 1 _ _ _ (heap_setCell_same W4 y 0 _ _ _ y4)]; rfl
  have k5 : W5.heap[z]? = some (.cells #[.slice A2 n c2] 24 (0, 0)) := by
    rw [← hW5, heap_setCell_other _ ⟨y, 1, none⟩ z _ (by show z ≠ y; omega), heap_setCell_other _ ⟨y, 0, none⟩ z _ (by show z ≠ y; omega)]; exact k4
  have t5 : Turned (fun k => k = z) w2 W5 := by
    rw [← hW5]; exact (t4.setCell (p := ⟨y, 0, none⟩) (fun h => by have h : y < w2.heap.size := h; omega) _).setCell (p := ⟨y, 1, none⟩) (fun h => by have h : y < w2.heap.size := h; omega) _
  have c5 : W5.cell? ⟨z, 0, none⟩ = some (.slice A2 n c2) := by rw [cell_of_row _ z 0 _ _ _ k5]; rfl
  have f5 : W5.frozen? ⟨z, 0, none⟩ = false := frozen_of_row _ z 0 _ _ k5
  have c5a : W5.cell? ⟨y, 0, none⟩ = some (.int .i64 (e : Nat)) := by rw [cell_of_row _ y 0 _ _ _ y5]; rfl
  have c5b : W5.cell? ⟨y, 1, none⟩ = some (.int .i64 (x : Nat)) := by rw [cell_of_row _ y 1 _ _ _ y5]; rfl
  have hzy : z ≠ y := by omega
  have hyz : y ≠ z := by omega
  have HT5 := Lib.hid (t5.setCell (p := ⟨z, 0, none⟩) (fun _ => rfl) (.slice A2 n c2)).drew
  have HK := Lib.hid (show ((W5.setCell ⟨z, 0, none⟩ (.slice A2 n c2)).drew).heap[z]? = some (.cells #[.slice A2 n c2] 24 (0, 0)) from by
    show (W5.setCell ⟨z, 0, none⟩ (.slice A2 n c2)).heap[z]? = _
    rw [heap_setCell_same W5 z 0 _ _ _ k5]; rfl)
  have HO := Lib.hid ho
  have HB2 := Lib.hid hb
  clear ho hb HC y3 k3 t3 k4 y4 t4 y5 k5 t5 k1 c1 f1 hW1 hz hn hs1 hs2
  go_wp2
  go_region
  go_wp2
  refine bodyPost_ret (results_vce rfl _ _ z _ _ _ _ rfl rfl rfl HK.out) rfl ?_
  have hl : (Vf.getE l).1.length = n := by rw [hr]; exact HN.out
  refine ⟨A2, c2, ?_, ?_, ?_⟩
  · rw [hl, hr]; rfl
  · rw [hl, hr]
    exact (HO.out.turned_ HT5.out (fun j hj e => by have e : j = z := e; have := (HO.out.lt_ j hj).1; have := HS1.out; omega)).mono_ (base' := w.heap.size) (by have := HZ.out; have := HS1.out; omega)
  · rw [HZ.out]
    exact (HB1.out.trans (HB2.out.mono (by have := HS1.out; omega))).trans (HT5.out.below (by have := HB2.out.size; have := HS1.out; omega) (fun k e => by have e : k = z := e; omega))
end Go.Proofs.Ytglkhgchbnkekaa
