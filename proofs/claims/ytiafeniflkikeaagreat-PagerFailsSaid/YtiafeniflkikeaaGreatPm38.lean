/- Parts of the proof. -/
import Derived.Test.YtiafeniflkikeaaGreatPm37
import Derived.Test.YtiafeniflkikeaaGreatPm12
import Derived.Test.YtiafeniflkikeaaGreatPm13
import Derived.Test.YtiafeniflkikeaaGreatPm30
import Derived.Test.YtiafeniflkikeaaGreatPm26
import Derived.Test.YtiafeniflkikeaaGreatPm24
import Derived.Test.YtiafeniflkikeaaGreatPm10
import Derived.Test.YtiafeniflkikeaaGreatPm11
import Derived.Test.YtiafeniflkikeaaGreatPm23
import Derived.Test.YtiafeniflkikeaaGreatPm17
namespace Go.Proofs.YtiafeniflkikeaaGreat
open Go.RowKit
set_option linter.unusedVariables false
section
variable {P : Program} {ops : Array Oper} {Q : Exit → Act → World → Prop} {md : Region.Mode} {S : World → Prop} {L : Nat}
theorem wpAnyM_inv {I : Array Bool → Act → World → Prop}
  (hstep : ∀ listed a w, I listed a w → ∀ i ∈ Region.ready md ops listed, wpOp P ops Q i (fun a' w' => (L ≤ i ∨ S w') ∧ I (listed.setIfInBounds i true) a' w') a w)
  (hend : ∀ listed a w, I listed a w → Region.ready md ops listed = [] → Q .normal a w) :
  ∀ (fuel : Nat) (listed : Array Bool) (a : Act) (w : World), listed.toList.count false ≤ fuel → I listed a w → wpAnyM P md ops Q S L fuel listed a w
 | 0, listed, a, w, hc, hI => by
  have h0 : Region.ready md ops listed = [] := by
   apply List.eq_nil_iff_forall_not_mem.2
   intro i hi
   have h1 := ready_false hi
   have h2 : false ∈ listed.toList := List.mem_of_getElem? h1
   have h3 : 0 < listed.toList.count false := List.count_pos_iff.2 h2
   omega
  exact ⟨h0, hend _ _ _ hI h0⟩
 | fuel + 1, listed, a, w, hc, hI => by
  refine ⟨fun h0 => hend _ _ _ hI h0, fun i hi => wpOp_mono (fun a' w' h' => ⟨h'.1, wpAnyM_inv hstep hend fuel _ a' w' ?_ h'.2⟩) (hstep _ _ _ hI i hi)⟩
  have h1 := ready_false hi
  obtain ⟨hlt, he⟩ := List.getElem?_eq_some_iff.1 h1
  rw [Array.toList_setIfInBounds, List.count_set hlt, he]
  simp only [show (false == false) = true from rfl, show (true == false) = false from rfl, if_true, Bool.false_eq_true, if_false]
  omega
end
def updB (g : Nat → Bool) (i j : Nat) : Bool := decide (i = j) || g j
theorem updB_ne {g : Nat → Bool} {i j : Nat} (h : updB g i j = true) (hij : i ≠ j) : g j = true := by simpa [updB, hij] using h
theorem updB_eq (listed : Array Bool) {i : Nat} (h : i < listed.size) : (fun j => (listed.setIfInBounds i true).getD j false) = updB (fun j => listed.getD j false) i := funext (fun j => getD_bits h j)
theorem py_built (bf : Nat) (name : ByteArray) (rt : Rt.Root) (cn U D P H : Nat) : Tryz.prog.built 79 [(0, .pointer (some ⟨bf, 0, none⟩)), (1, .string name), (2, .agg (rtC rt)), (3, .map (some U)), (4, .map (some D)), (5, .map (some P)), (6, .agg #[.int .i64 (cn : Nat), .map (some H), .int .i64 0]), (7, .int .i64 2)] = some (pyC bf ⟨name, rt, cn, [], 0⟩ U D P H 0 2) := by kernel_rfl
structure OpI (w5 : World) (bf : Nat) (name : ByteArray) (rt : Rt.Root) (cn : Nat) (g : Nat → Bool) (v52 v54 v55 v56 v58 v59 v60 r6 r7 : Value) (U D P H b : Nat) (w' : World) : Prop where
 hb : Below w5.heap.size w5 w'
 p2 : g 2 = true → v52 = .string name
 p4 : g 4 = true → v54 = .map (some U) ∧ IsMp nuM w' U 0 (fun _ => none) ∧ w5.heap.size ≤ U
 p5 : g 5 = true → v55 = .map (some D) ∧ IsMp nuM w' D 0 (fun _ => none) ∧ w5.heap.size ≤ D
 p6 : g 6 = true → v56 = .map (some P) ∧ IsMp peM w' P 0 (fun _ => none) ∧ w5.heap.size ≤ P
 p8 : g 8 = true → v58 = .agg #[.int .i64 (cn : Nat), .map (some H), .int .i64 0] ∧ IsMp haM w' H 0 (fun _ => none) ∧ w5.heap.size ≤ H
 d45 : g 4 = true → g 5 = true → U ≠ D
 d46 : g 4 = true → g 6 = true → U ≠ P
 d48 : g 4 = true → g 8 = true → U ≠ H
 d56 : g 5 = true → g 6 = true → D ≠ P
 d58 : g 5 = true → g 8 = true → D ≠ H
 d68 : g 6 = true → g 8 = true → P ≠ H
 p9 : g 9 = true → v59 = .agg (pyC bf ⟨name, rt, cn, [], 0⟩ U D P H 0 2) ∧ g 4 = true ∧ g 5 = true ∧ g 6 = true ∧ g 8 = true
 p10 : g 10 = true → v60 = .pointer (some ⟨b, 0, none⟩) ∧ Rw w' b 79 (pyC bf ⟨name, rt, cn, [], 0⟩ U D P H 0 2) ∧ w5.heap.size ≤ b ∧ (b ≠ U ∧ b ≠ D ∧ b ≠ P ∧ b ≠ H) ∧ g 9 = true
 p11 : g 11 = true → r6 = v60 ∧ g 10 = true
 p12 : g 12 = true → r7 = .int .i64 0 ∧ g 11 = true
section
variable {w5 w' w'' : World} {bf : Nat} {name : ByteArray} {rt : Rt.Root} {cn : Nat} {g : Nat → Bool} {v52 v54 v55 v56 v58 v59 v60 r6 r7 x : Value} {U D P H b : Nat}
theorem OpI.below (h : OpI w5 bf name rt cn g v52 v54 v55 v56 v58 v59 v60 r6 r7 U D P H b w') (hb : Below w'.heap.size w' w'') : OpI w5 bf name rt cn g v52 v54 v55 v56 v58 v59 v60 r6 r7 U D P H b w'' :=
 ⟨h.hb.trans (hb.mono h.hb.size), h.p2, fun e => ⟨(h.p4 e).1, (h.p4 e).2.1.below_ hb (h.p4 e).2.1.lt_, (h.p4 e).2.2⟩, fun e => ⟨(h.p5 e).1, (h.p5 e).2.1.below_ hb (h.p5 e).2.1.lt_, (h.p5 e).2.2⟩, fun e => ⟨(h.p6 e).1, (h.p6 e).2.1.below_ hb (h.p6 e).2.1.lt_, (h.p6 e).2.2⟩, fun e => ⟨(h.p8 e).1, (h.p8 e).2.1.below_ hb (h.p8 e).2.1.lt_, (h.p8 e).2.2⟩,
  h.d45, h.d46, h.d48, h.d56, h.d58, h.d68, h.p9, fun e => ⟨(h.p10 e).1, (h.p10 e).2.1.below hb (h.p10 e).2.1.lt, (h.p10 e).2.2⟩, h.p11, h.p12⟩
theorem OpI.s2 (h : OpI w5 bf name rt cn g v52 v54 v55 v56 v58 v59 v60 r6 r7 U D P H b w') (hx : x = .string name) : OpI w5 bf name rt cn (updB g 2) x v54 v55 v56 v58 v59 v60 r6 r7 U D P H b w' :=
 ⟨h.hb, fun _ => hx, fun e => h.p4 (updB_ne e (by decide)), fun e => h.p5 (updB_ne e (by decide)), fun e => h.p6 (updB_ne e (by decide)), fun e => h.p8 (updB_ne e (by decide)), fun e e' => h.d45 (updB_ne e (by decide)) (updB_ne e' (by decide)), fun e e' => h.d46 (updB_ne e (by decide)) (updB_ne e' (by decide)), fun e e' => h.d48 (updB_ne e (by decide)) (updB_ne e' (by decide)), fun e e' => h.d56 (updB_ne e (by decide)) (updB_ne e' (by decide)), fun e e' => h.d58 (updB_ne e (by decide)) (updB_ne e' (by decide)), fun e e' => h.d68 (updB_ne e (by decide)) (updB_ne e' (by decide)), fun e => ⟨(h.p9 (updB_ne e (by decide))).1, by simp [updB, (h.p9 (updB_ne e (by decide))).2.1], by simp [updB, (h.p9 (updB_ne e (by decide))).2.2.1], by simp [updB, (h.p9 (updB_ne e (by decide))).2.2.2.1], by simp [updB, (h.p9 (updB_ne e (by decide))).2.2.2.2]⟩, fun e => ⟨(h.p10 (updB_ne e (by decide))).1, (h.p10 (updB_ne e (by decide))).2.1, (h.p10 (updB_ne e (by decide))).2.2.1, (h.p10 (updB_ne e (by decide))).2.2.2.1, by simp [updB, (h.p10 (updB_ne e (by decide))).2.2.2.2]⟩, fun e => ⟨(h.p11 (updB_ne e (by decide))).1, by simp [updB, (h.p11 (updB_ne e (by decide))).2]⟩, fun e => ⟨(h.p12 (updB_ne e (by decide))).1, by simp [updB, (h.p12 (updB_ne e (by decide))).2]⟩⟩
theorem OpI.s4 {m : Nat} (h : OpI w5 bf name rt cn g v52 v54 v55 v56 v58 v59 v60 r6 r7 U D P H b w') (hn : g 4 = false) (hw : Below w'.heap.size w' w'') (hm : w'.heap.size ≤ m) (hx : x = .map (some m)) (hmp : IsMp nuM w'' m 0 (fun _ => none)) : OpI w5 bf name rt cn (updB g 4) v52 x v55 v56 v58 v59 v60 r6 r7 m D P H b w'' := by
 have hb := h.hb.size
 have h2 := h.below hw
 exact ⟨h2.hb, fun e => h2.p2 (updB_ne e (by decide)), fun _ => ⟨hx, hmp, Nat.le_trans hb hm⟩, fun e => h2.p5 (updB_ne e (by decide)), fun e => h2.p6 (updB_ne e (by decide)), fun e => h2.p8 (updB_ne e (by decide)), fun _ e => Nat.ne_of_gt (Nat.lt_of_lt_of_le (h.p5 (updB_ne e (by decide))).2.1.lt_ hm), fun _ e => Nat.ne_of_gt (Nat.lt_of_lt_of_le (h.p6 (updB_ne e (by decide))).2.1.lt_ hm), fun _ e => Nat.ne_of_gt (Nat.lt_of_lt_of_le (h.p8 (updB_ne e (by decide))).2.1.lt_ hm), fun e e' => h2.d56 (updB_ne e (by decide)) (updB_ne e' (by decide)), fun e e' => h2.d58 (updB_ne e (by decide)) (updB_ne e' (by decide)), fun e e' => h2.d68 (updB_ne e (by decide)) (updB_ne e' (by decide)), fun e => by
  have e9 := updB_ne (i := 4) e (by decide)
  exact absurd (h.p9 e9).2.1 (by rw [hn]; simp), fun e => by
  have e9 := (h.p10 (updB_ne (i := 4) e (by decide))).2.2.2.2
  exact absurd (h.p9 e9).2.1 (by rw [hn]; simp), fun e => ⟨(h2.p11 (updB_ne e (by decide))).1, by simp [updB, (h2.p11 (updB_ne e (by decide))).2]⟩, fun e => ⟨(h2.p12 (updB_ne e (by decide))).1, by simp [updB, (h2.p12 (updB_ne e (by decide))).2]⟩⟩
theorem OpI.s5 {m : Nat} (h : OpI w5 bf name rt cn g v52 v54 v55 v56 v58 v59 v60 r6 r7 U D P H b w') (hn : g 5 = false) (hw : Below w'.heap.size w' w'') (hm : w'.heap.size ≤ m) (hx : x = .map (some m)) (hmp : IsMp nuM w'' m 0 (fun _ => none)) : OpI w5 bf name rt cn (updB g 5) v52 v54 x v56 v58 v59 v60 r6 r7 U m P H b w'' := by
 have hb := h.hb.size
 have h2 := h.below hw
 exact ⟨h2.hb, fun e => h2.p2 (updB_ne e (by decide)), fun e => h2.p4 (updB_ne e (by decide)), fun _ => ⟨hx, hmp, Nat.le_trans hb hm⟩, fun e => h2.p6 (updB_ne e (by decide)), fun e => h2.p8 (updB_ne e (by decide)), fun e _ => Nat.ne_of_lt (Nat.lt_of_lt_of_le (h.p4 (updB_ne e (by decide))).2.1.lt_ hm), fun e e' => h2.d46 (updB_ne e (by decide)) (updB_ne e' (by decide)), fun e e' => h2.d48 (updB_ne e (by decide)) (updB_ne e' (by decide)), fun _ e => Nat.ne_of_gt (Nat.lt_of_lt_of_le (h.p6 (updB_ne e (by decide))).2.1.lt_ hm), fun _ e => Nat.ne_of_gt (Nat.lt_of_lt_of_le (h.p8 (updB_ne e (by decide))).2.1.lt_ hm), fun e e' => h2.d68 (updB_ne e (by decide)) (updB_ne e' (by decide)), fun e => by
  have e9 := updB_ne (i := 5) e (by decide)
  exact absurd (h.p9 e9).2.2.1 (by rw [hn]; simp), fun e => by
  have e9 := (h.p10 (updB_ne (i := 5) e (by decide))).2.2.2.2
  exact absurd (h.p9 e9).2.2.1 (by rw [hn]; simp), fun e => ⟨(h2.p11 (updB_ne e (by decide))).1, by simp [updB, (h2.p11 (updB_ne e (by decide))).2]⟩, fun e => ⟨(h2.p12 (updB_ne e (by decide))).1, by simp [updB, (h2.p12 (updB_ne e (by decide))).2]⟩⟩
theorem OpI.s6 {m : Nat} (h : OpI w5 bf name rt cn g v52 v54 v55 v56 v58 v59 v60 r6 r7 U D P H b w') (hn : g 6 = false) (hw : Below w'.heap.size w' w'') (hm : w'.heap.size ≤ m) (hx : x = .map (some m)) (hmp : IsMp peM w'' m 0 (fun _ => none)) : OpI w5 bf name rt cn (updB g 6) v52 v54 v55 x v58 v59 v60 r6 r7 U D m H b w'' := by
 have hb := h.hb.size
 have h2 := h.below hw
 exact ⟨h2.hb, fun e => h2.p2 (updB_ne e (by decide)), fun e => h2.p4 (updB_ne e (by decide)), fun e => h2.p5 (updB_ne e (by decide)), fun _ => ⟨hx, hmp, Nat.le_trans hb hm⟩, fun e => h2.p8 (updB_ne e (by decide)), fun e e' => h2.d45 (updB_ne e (by decide)) (updB_ne e' (by decide)), fun e _ => Nat.ne_of_lt (Nat.lt_of_lt_of_le (h.p4 (updB_ne e (by decide))).2.1.lt_ hm), fun e e' => h2.d48 (updB_ne e (by decide)) (updB_ne e' (by decide)), fun e _ => Nat.ne_of_lt (Nat.lt_of_lt_of_le (h.p5 (updB_ne e (by decide))).2.1.lt_ hm), fun e e' => h2.d58 (updB_ne e (by decide)) (updB_ne e' (by decide)), fun _ e => Nat.ne_of_gt (Nat.lt_of_lt_of_le (h.p8 (updB_ne e (by decide))).2.1.lt_ hm), fun e => by
  have e9 := updB_ne (i := 6) e (by decide)
  exact absurd (h.p9 e9).2.2.2.1 (by rw [hn]; simp), fun e => by
  have e9 := (h.p10 (updB_ne (i := 6) e (by decide))).2.2.2.2
  exact absurd (h.p9 e9).2.2.2.1 (by rw [hn]; simp), fun e => ⟨(h2.p11 (updB_ne e (by decide))).1, by simp [updB, (h2.p11 (updB_ne e (by decide))).2]⟩, fun e => ⟨(h2.p12 (updB_ne e (by decide))).1, by simp [updB, (h2.p12 (updB_ne e (by decide))).2]⟩⟩
theorem OpI.s8 {m : Nat} (h : OpI w5 bf name rt cn g v52 v54 v55 v56 v58 v59 v60 r6 r7 U D P H b w') (hn : g 8 = false) (hw : Below w'.heap.size w' w'') (hm : w'.heap.size ≤ m) (hx : x = .agg #[.int .i64 (cn : Nat), .map (some m), .int .i64 0]) (hmp : IsMp haM w'' m 0 (fun _ => none)) : OpI w5 bf name rt cn (updB g 8) v52 v54 v55 v56 x v59 v60 r6 r7 U D P m b w'' := by
 have hb := h.hb.size
 have h2 := h.below hw
 exact ⟨h2.hb, fun e => h2.p2 (updB_ne e (by decide)), fun e => h2.p4 (updB_ne e (by decide)), fun e => h2.p5 (updB_ne e (by decide)), fun e => h2.p6 (updB_ne e (by decide)), fun _ => ⟨hx, hmp, Nat.le_trans hb hm⟩, fun e e' => h2.d45 (updB_ne e (by decide)) (updB_ne e' (by decide)), fun e e' => h2.d46 (updB_ne e (by decide)) (updB_ne e' (by decide)), fun e _ => Nat.ne_of_lt (Nat.lt_of_lt_of_le (h.p4 (updB_ne e (by decide))).2.1.lt_ hm), fun e e' => h2.d56 (updB_ne e (by decide)) (updB_ne e' (by decide)), fun e _ => Nat.ne_of_lt (Nat.lt_of_lt_of_le (h.p5 (updB_ne e (by decide))).2.1.lt_ hm), fun e _ => Nat.ne_of_lt (Nat.lt_of_lt_of_le (h.p6 (updB_ne e (by decide))).2.1.lt_ hm), fun e => by
  have e9 := updB_ne (i := 8) e (by decide)
  exact absurd (h.p9 e9).2.2.2.2 (by rw [hn]; simp), fun e => by
  have e9 := (h.p10 (updB_ne (i := 8) e (by decide))).2.2.2.2
  exact absurd (h.p9 e9).2.2.2.2 (by rw [hn]; simp), fun e => ⟨(h2.p11 (updB_ne e (by decide))).1, by simp [updB, (h2.p11 (updB_ne e (by decide))).2]⟩, fun e => ⟨(h2.p12 (updB_ne e (by decide))).1, by simp [updB, (h2.p12 (updB_ne e (by decide))).2]⟩⟩
theorem OpI.s9 (h : OpI w5 bf name rt cn g v52 v54 v55 v56 v58 v59 v60 r6 r7 U D P H b w') (hx : x = .agg (pyC bf ⟨name, rt, cn, [], 0⟩ U D P H 0 2)) (h4 : g 4 = true) (h5 : g 5 = true) (h6 : g 6 = true) (h8 : g 8 = true) : OpI w5 bf name rt cn (updB g 9) v52 v54 v55 v56 v58 x v60 r6 r7 U D P H b w' :=
 ⟨h.hb, fun e => h.p2 (updB_ne e (by decide)), fun e => h.p4 (updB_ne e (by decide)), fun e => h.p5 (updB_ne e (by decide)), fun e => h.p6 (updB_ne e (by decide)), fun e => h.p8 (updB_ne e (by decide)), fun e e' => h.d45 (updB_ne e (by decide)) (updB_ne e' (by decide)), fun e e' => h.d46 (updB_ne e (by decide)) (updB_ne e' (by decide)), fun e e' => h.d48 (updB_ne e (by decide)) (updB_ne e' (by decide)), fun e e' => h.d56 (updB_ne e (by decide)) (updB_ne e' (by decide)), fun e e' => h.d58 (updB_ne e (by decide)) (updB_ne e' (by decide)), fun e e' => h.d68 (updB_ne e (by decide)) (updB_ne e' (by decide)), fun _ => ⟨hx, by simp [updB, h4], by simp [updB, h5], by simp [updB, h6], by simp [updB, h8]⟩, fun e => ⟨(h.p10 (updB_ne e (by decide))).1, (h.p10 (updB_ne e (by decide))).2.1, (h.p10 (updB_ne e (by decide))).2.2.1, (h.p10 (updB_ne e (by decide))).2.2.2.1, by simp [updB, (h.p10 (updB_ne e (by decide))).2.2.2.2]⟩, fun e => ⟨(h.p11 (updB_ne e (by decide))).1, by simp [updB, (h.p11 (updB_ne e (by decide))).2]⟩, fun e => ⟨(h.p12 (updB_ne e (by decide))).1, by simp [updB, (h.p12 (updB_ne e (by decide))).2]⟩⟩
theorem OpI.s10 {m : Nat} (h : OpI w5 bf name rt cn g v52 v54 v55 v56 v58 v59 v60 r6 r7 U D P H b w') (hn : g 10 = false) (h9 : g 9 = true) (hw : Below w'.heap.size w' w'') (hm : w'.heap.size ≤ m) (hx : x = .pointer (some ⟨m, 0, none⟩)) (hr : Rw w'' m 79 (pyC bf ⟨name, rt, cn, [], 0⟩ U D P H 0 2)) : OpI w5 bf name rt cn (updB g 10) v52 v54 v55 v56 v58 v59 x r6 r7 U D P H m w'' := by
 have hb := h.hb.size
 obtain ⟨_, h4, h5, h6, h8⟩ := h.p9 h9
 have h2 := h.below hw
 exact ⟨h2.hb, fun e => h2.p2 (updB_ne e (by decide)), fun e => h2.p4 (updB_ne e (by decide)), fun e => h2.p5 (updB_ne e (by decide)), fun e => h2.p6 (updB_ne e (by decide)), fun e => h2.p8 (updB_ne e (by decide)), fun e e' => h2.d45 (updB_ne e (by decide)) (updB_ne e' (by decide)), fun e e' => h2.d46 (updB_ne e (by decide)) (updB_ne e' (by decide)), fun e e' => h2.d48 (updB_ne e (by decide)) (updB_ne e' (by decide)), fun e e' => h2.d56 (updB_ne e (by decide)) (updB_ne e' (by decide)), fun e e' => h2.d58 (updB_ne e (by decide)) (updB_ne e' (by decide)), fun e e' => h2.d68 (updB_ne e (by decide)) (updB_ne e' (by decide)), fun e => ⟨(h2.p9 (updB_ne e (by decide))).1, by simp [updB, (h2.p9 (updB_ne e (by decide))).2.1], by simp [updB, (h2.p9 (updB_ne e (by decide))).2.2.1], by simp [updB, (h2.p9 (updB_ne e (by decide))).2.2.2.1], by simp [updB, (h2.p9 (updB_ne e (by decide))).2.2.2.2]⟩, fun _ => ⟨hx, hr, Nat.le_trans hb hm, ⟨fun e => by have := (h.p4 h4).2.1.lt_; omega, fun e => by have := (h.p5 h5).2.1.lt_; omega, fun e => by have := (h.p6 h6).2.1.lt_; omega, fun e => by have := (h.p8 h8).2.1.lt_; omega⟩, by simp [updB, h9]⟩, fun e => absurd (h.p11 (updB_ne e (by decide))).2 (by rw [hn]; simp), fun e => ⟨(h2.p12 (updB_ne e (by decide))).1, by simp [updB, (h2.p12 (updB_ne e (by decide))).2]⟩⟩
theorem OpI.s11 (h : OpI w5 bf name rt cn g v52 v54 v55 v56 v58 v59 v60 r6 r7 U D P H b w') (h10 : g 10 = true) (hx : x = v60) : OpI w5 bf name rt cn (updB g 11) v52 v54 v55 v56 v58 v59 v60 x r7 U D P H b w' :=
 ⟨h.hb, fun e => h.p2 (updB_ne e (by decide)), fun e => h.p4 (updB_ne e (by decide)), fun e => h.p5 (updB_ne e (by decide)), fun e => h.p6 (updB_ne e (by decide)), fun e => h.p8 (updB_ne e (by decide)), fun e e' => h.d45 (updB_ne e (by decide)) (updB_ne e' (by decide)), fun e e' => h.d46 (updB_ne e (by decide)) (updB_ne e' (by decide)), fun e e' => h.d48 (updB_ne e (by decide)) (updB_ne e' (by decide)), fun e e' => h.d56 (updB_ne e (by decide)) (updB_ne e' (by decide)), fun e e' => h.d58 (updB_ne e (by decide)) (updB_ne e' (by decide)), fun e e' => h.d68 (updB_ne e (by decide)) (updB_ne e' (by decide)), fun e => ⟨(h.p9 (updB_ne e (by decide))).1, by simp [updB, (h.p9 (updB_ne e (by decide))).2.1], by simp [updB, (h.p9 (updB_ne e (by decide))).2.2.1], by simp [updB, (h.p9 (updB_ne e (by decide))).2.2.2.1], by simp [updB, (h.p9 (updB_ne e (by decide))).2.2.2.2]⟩, fun e => ⟨(h.p10 (updB_ne e (by decide))).1, (h.p10 (updB_ne e (by decide))).2.1, (h.p10 (updB_ne e (by decide))).2.2.1, (h.p10 (updB_ne e (by decide))).2.2.2.1, by simp [updB, (h.p10 (updB_ne e (by decide))).2.2.2.2]⟩, fun _ => ⟨hx, by simp [updB, h10]⟩, fun e => ⟨(h.p12 (updB_ne e (by decide))).1, by simp [updB, (h.p12 (updB_ne e (by decide))).2]⟩⟩
theorem OpI.s12 (h : OpI w5 bf name rt cn g v52 v54 v55 v56 v58 v59 v60 r6 r7 U D P H b w') (h11 : g 11 = true) (hx : x = .int .i64 0) : OpI w5 bf name rt cn (updB g 12) v52 v54 v55 v56 v58 v59 v60 r6 x U D P H b w' :=
 ⟨h.hb, fun e => h.p2 (updB_ne e (by decide)), fun e => h.p4 (updB_ne e (by decide)), fun e => h.p5 (updB_ne e (by decide)), fun e => h.p6 (updB_ne e (by decide)), fun e => h.p8 (updB_ne e (by decide)), fun e e' => h.d45 (updB_ne e (by decide)) (updB_ne e' (by decide)), fun e e' => h.d46 (updB_ne e (by decide)) (updB_ne e' (by decide)), fun e e' => h.d48 (updB_ne e (by decide)) (updB_ne e' (by decide)), fun e e' => h.d56 (updB_ne e (by decide)) (updB_ne e' (by decide)), fun e e' => h.d58 (updB_ne e (by decide)) (updB_ne e' (by decide)), fun e e' => h.d68 (updB_ne e (by decide)) (updB_ne e' (by decide)), fun e => ⟨(h.p9 (updB_ne e (by decide))).1, by simp [updB, (h.p9 (updB_ne e (by decide))).2.1], by simp [updB, (h.p9 (updB_ne e (by decide))).2.2.1], by simp [updB, (h.p9 (updB_ne e (by decide))).2.2.2.1], by simp [updB, (h.p9 (updB_ne e (by decide))).2.2.2.2]⟩, fun e => ⟨(h.p10 (updB_ne e (by decide))).1, (h.p10 (updB_ne e (by decide))).2.1, (h.p10 (updB_ne e (by decide))).2.2.1, (h.p10 (updB_ne e (by decide))).2.2.2.1, by simp [updB, (h.p10 (updB_ne e (by decide))).2.2.2.2]⟩, fun e => ⟨(h.p11 (updB_ne e (by decide))).1, by simp [updB, (h.p11 (updB_ne e (by decide))).2]⟩, fun _ => ⟨hx, by simp [updB, h11]⟩⟩
theorem OpI.all (h : OpI w5 bf name rt cn g v52 v54 v55 v56 v58 v59 v60 r6 r7 U D P H b w') (g2 : g 2 = true) (g4 : g 4 = true) (g5 : g 5 = true) (g6 : g 6 = true) (g8 : g 8 = true) (g9 : g 9 = true) (g10 : g 10 = true) (g11 : g 11 = true) (g12 : g 12 = true) : OpI w5 bf name rt cn (fun _ => true) v52 v54 v55 v56 v58 v59 v60 r6 r7 U D P H b w' :=
 ⟨h.hb, fun _ => h.p2 g2, fun _ => h.p4 g4, fun _ => h.p5 g5, fun _ => h.p6 g6, fun _ => h.p8 g8, fun _ _ => h.d45 g4 g5, fun _ _ => h.d46 g4 g6, fun _ _ => h.d48 g4 g8, fun _ _ => h.d56 g5 g6, fun _ _ => h.d58 g5 g8, fun _ _ => h.d68 g6 g8, fun _ => ⟨(h.p9 g9).1, rfl, rfl, rfl, rfl⟩, fun _ => ⟨(h.p10 g10).1, (h.p10 g10).2.1, (h.p10 g10).2.2.1, (h.p10 g10).2.2.2.1, rfl⟩, fun _ => ⟨(h.p11 g11).1, rfl⟩, fun _ => ⟨(h.p12 g12).1, rfl⟩⟩
end
end Go.Proofs.YtiafeniflkikeaaGreat
namespace Go.Proofs.YtiafeniflkikeaaGreat
open Go.RowKit
set_option linter.unusedVariables false
section
variable {w w' : World} {fd : Fp} {bf : Nat} {t : Sf.St}
def IsOpen (t : Sf.St) (name : ByteArray) (cache : Int) (bf : Nat) (w : World) (e : Ending) (w' : World) : Prop :=
 Below w.heap.size w w' ∧ (((Pp.openE t name cache).1 = none ∧ e = .returned (.tuple #[.pointer none, .int .i64 ((Pp.openE t name cache).2 : Nat)])) ∨
  ∃ s b f', (Pp.openE t name cache) = (some s, 0) ∧ e = .returned (.tuple #[.pointer (some ⟨b, 0, none⟩), .int .i64 0]) ∧ PPager w' f' s (Sf.now (Sf.fileAt t (Sf.get t name).1)) b bf ∧ f'.From w.heap.size)
theorem IsOpen.no {name : ByteArray} {cache : Int} {er : Nat} {x : Int} (hb : Below w.heap.size w w') (h : Pp.openE t name cache = (none, er)) (hx : x = (er : Int)) : IsOpen t name cache bf w (.returned (.tuple #[.pointer none, .int .i64 x])) w' := by
 subst hx
 exact ⟨hb, .inl ⟨by rw [h], by rw [h]⟩⟩
theorem Sf.get_err (t : Sf.St) (u : ByteArray) : (Sf.get t u).2 = 0 ∨ (Sf.get t u).2 = 7 ∨ (Sf.get t u).2 = 13 := by
 unfold Sf.get
 split
 ·exact .inr (.inr rfl)
 ·split
  ·exact .inr (.inl rfl)
  ·exact .inl rfl
theorem Pp.cnt_none {β : Type} (m : Nat) : Pp.cnt m (fun _ => (none : Option β)) = 0 := by
 unfold Pp.cnt
 rw [List.countP_eq_zero]
 intro _ _ h
 cases h
theorem Rt.told_may {a b : List Nat} {r : Rt.Root} (h : Rt.pickE a b = (r, 0)) : Rt.May r := by
 unfold Rt.pickE at h
 split at h
 ·cases (Prod.mk.inj h).2
 ·rename_i h1
  split at h
  ·rename_i h2
   exact Rt.getE_may (place := 0) (b := a) (Prod.ext (Prod.mk.inj h).1 h2.1)
  ·rename_i h2
   have h3 : (Rt.getE 1 b).2 = 0 := Decidable.byContradiction fun hn => by
    by_cases h4 : (Rt.getE 0 a).2 = 0
    ·exact h2 ⟨h4, .inl hn⟩
    ·exact h1 ⟨h4, hn⟩
   exact Rt.getE_may (place := 1) (b := b) (Prod.ext (Prod.mk.inj h).1 h3)
theorem Rt.pick_err (a b : List Nat) : (Rt.pickE a b).2 = 0 ∨ (Rt.pickE a b).2 = 7 := by
 unfold Rt.pickE
 split
 ·exact .inr rfl
 ·split <;> exact .inl rfl
set_option maxHeartbeats 4000000 in
set_option maxRecDepth 100000 in
theorem ppopen_any (name : ByteArray) (cache : Int) (hD : PDisk w fd t bf) (hn : name.size ≤ 4096) (hc : I64 cache) :
 Calls Tryz.prog 7 #[.pointer (some ⟨bf, 0, none⟩), .string name, .int .i64 cache] w (IsOpen t name cache bf w) := by
 have hnm : name.size ≤ maxLen := by simp only [maxLen]; omega
 have CS := Lib.hid (psizeOf_any hD name hnm)
 have HD := Lib.hid hD
 have HGE := Lib.hid (Sf.get_err t name)
 obtain ⟨k, er, hg⟩ : ∃ k er, Sf.get t name = (k, er) := ⟨_, _, rfl⟩
 have HSZ : Hid (Sf.size t name = (if er ≠ 0 then (0, er) else (Sf.len t k, 0))) := by unfold Hid Sf.size; rw [hg]
 have HRD : Hid (Sf.read t name 0 1024 = (if er ≠ 0 then ([], er) else ((Sf.now (Sf.fileAt t k)).take 1024, 0))) := by
  unfold Hid Sf.read; rw [hg]
  by_cases h : er = 0
  ·subst h
   simp only [ne_eq, not_true_eq_false, if_false]
   rw [if_neg (by omega)]
   rfl
  ·simp only [ne_eq, h, not_false_eq_true, if_true]
 obtain ⟨sz, es, hse⟩ : ∃ sz es, Sf.size t name = (sz, es) := ⟨_, _, rfl⟩
 have hes : es ≠ 1 := by
  have h1 := HSZ.out
  rw [hse] at h1
  have h2 := HGE.out
  rw [hg] at h2
  simp only at h2
  split at h1
  ·have := (Prod.mk.inj h1).2; omega
  ·have := (Prod.mk.inj h1).2; omega
 rw [hse] at CS
 have he1 : ((es : Int) == 1) = false := by rw [beq_eq_false_iff_ne]; omega
 have HG := Lib.hid hg
 clear hD hse hg
 by_cases hca : cache < 0 ∨ 256 < cache
 ·have HO : Hid (Pp.openE t name cache = (none, 2)) := if_pos hca
  by_cases h0 : cache < 0
  ·have hd0 : decide (cache < 0) = true := decide_eq_true h0
   go_enter Tryz.func7, Tryz.ntmps7
   go_wp2_with fail
   refine CS.out.mono ?_
   rintro e w1 ⟨rfl, b1⟩
   clear CS
   go_wp2
   go_ret2
   exact IsOpen.no b1 HO.out rfl
  ·have hd0 : decide (cache < 0) = false := decide_eq_false h0
   have hd1 : decide (256 < cache) = true := decide_eq_true (hca.resolve_left h0)
   clear hca
   go_enter Tryz.func7, Tryz.ntmps7
   go_wp2_with fail
   refine CS.out.mono ?_
   rintro e w1 ⟨rfl, b1⟩
   clear CS
   go_wp2
   go_ret2
   exact IsOpen.no b1 HO.out rfl
 ·have hd0 : decide (cache < 0) = false := decide_eq_false (fun h => hca (.inl h))
  have hd1 : decide (256 < cache) = false := decide_eq_false (fun h => hca (.inr h))
  have HCA := Lib.hid hca
  clear hca
  go_enter Tryz.func7, Tryz.ntmps7
  go_wp2_with fail
  refine CS.out.mono ?_
  rintro e w1 ⟨rfl, b1⟩
  have HB1 := Lib.hid b1
  have HD1 := Lib.hid (pdisk_law.below HD.out b1)
  have CR := Lib.hid (pread_any HD1.out name hnm 0 1024 (by unfold I64; omega) (by unfold I64; omega))
  rw [HRD.out] at CR
  by_cases he : er = 0
  ·subst he
   simp only [ne_eq, not_true_eq_false, if_false] at CR
   obtain ⟨lb, hlb⟩ : ∃ lb, (Sf.now (Sf.fileAt t k)).take 1024 = lb := ⟨_, rfl⟩
   rw [hlb] at CR
   have HLB := Lib.hid hlb
   clear CS b1 hlb
   go_wp2_with fail
   refine CR.out.mono ?_
   rintro e w2 ⟨A, c, rfl, ho, b2⟩
   have HB2 := Lib.hid (HB1.out.trans (b2.mono HB1.out.size))
   have HD2 := Lib.hid (pdisk_law.below HD1.out b2)
   have HO2 := Lib.hid ho
   obtain ⟨e1, e2, e3⟩ := ho.form_.len_
   have HE := Lib.hid (And.intro e2 e3)
   clear CR ho b2 e1 e2 e3
   simp only
   by_cases hl : lb.length < 1024
   ·have hd2 : decide ((lb.length : Int) < 1024) = true := decide_eq_true (by omega)
    have HO : Hid (Pp.openE t name cache = (none, 4)) := by
     unfold Hid Pp.openE
     rw [if_neg HCA.out, HG.out, if_neg (by simp)]
     simp only
     rw [if_pos (by have := HLB.out; rw [← this, List.length_take] at hl; omega)]
    go_wp2
    go_ret2
    exact IsOpen.no HB2.out HO.out rfl
   ·have hd2 : decide ((lb.length : Int) < 1024) = false := decide_eq_false (by omega)
    have HFL : Hid (lb.length = 1024 ∧ 1024 ≤ (Sf.now (Sf.fileAt t k)).length) := by
     have h := HLB.out
     have h2 : lb.length = min 1024 (Sf.now (Sf.fileAt t k)).length := by rw [← h, List.length_take]
     constructor <;> omega
    have HTD : Hid (Pp.told (Sf.now (Sf.fileAt t k)) = Rt.pickE (lb.take 512) (lb.drop 512)) := by
     unfold Hid Pp.told
     rw [← HLB.out, List.take_take, List.drop_take]
     rfl
    obtain ⟨A2, hf1, hf2, hf3, hf4⟩ := cut_from (yK : El Tryz.prog Nat) rfl A lb.length c 512 (by omega) HE.out.1
    have hct := cut_to (yK : El Tryz.prog Nat) rfl A lb.length c 512 (by have h : lb.length ≤ c := HE.out.1; omega)
    have HV1 : Hid (Lv yK w2 w2.heap.size (.slice A 512 c) (lb.take 512)) := (HO2.out.form_).take_ (k := 512) (by show 512 ≤ lb.length; omega)
    have HV2 : Hid (Lv yK w2 w2.heap.size (.slice A2 (lb.length - 512) (c - 512)) (lb.drop 512)) := hf3 w2 w2.heap.size lb HO2.out.form_
    obtain ⟨n2, hn2⟩ : ∃ n2, lb.length - 512 = n2 := ⟨_, rfl⟩
    obtain ⟨c2, hc2⟩ : ∃ c2, c - 512 = c2 := ⟨_, rfl⟩
    rw [hn2, hc2] at HV2 hf1 hf2
    change ∀ w, (Instr.slice 40 (.slice A lb.length c) (some (.int .i64 512)) none none).run Tryz.prog w = .ok (.slice A2 n2 c2) w at hf1
    change ∀ w, (Instr.slice 40 (.slice A lb.length c) none (some (.int .i64 512)) none).run Tryz.prog w = .ok (.slice A 512 c) w at hct
    have hf2' : ∀ w, (Instr.sliceAt 40 (.slice A lb.length c) (some (.int .i64 512)) none none).run Tryz.prog w = .ok (.slice A2 n2 c2) w := hf2
    have hct' : ∀ w, (Instr.sliceAt 40 (.slice A lb.length c) none (some (.int .i64 512)) none).run Tryz.prog w = .ok (.slice A 512 c) w := cutAt_to (yK : El Tryz.prog Nat) rfl A lb.length c 512 (by have h : lb.length ≤ c := HE.out.1; omega)
    clear hf2 hf3 hf4 hn2 hc2
    obtain ⟨X, hX⟩ : ∃ X, w2.drew = X := ⟨_, rfl⟩
    have HXB : Hid (Below w2.heap.size w2 X) := by unfold Hid; rw [← hX]; exact below_drewN (Below.refl _ _) 1
    have CP := Lib.hid (prtpick_any _ _ _ _ w2.heap.size w2.heap.size X (HV1.out.below_ HXB.out (Nat.le_refl _)) (HV2.out.below_ HXB.out (Nat.le_refl _)) HXB.out.size HXB.out.size)
    rw [← HTD.out] at CP
    obtain ⟨rt, et, hrt⟩ : ∃ rt et, Pp.told (Sf.now (Sf.fileAt t k)) = (rt, et) := ⟨_, _, rfl⟩
    rw [hrt] at CP
    have HRT := Lib.hid hrt
    have hz7 := (zero_of_info (n := 7) rt_zero).1
    obtain ⟨N7, hN7⟩ : ∃ N, none7 = N := ⟨_, rfl⟩
    have HN7 := Lib.hid hN7
    rw [hN7] at hz7
    clear hrt hN7
    obtain ⟨C, hC⟩ : ∃ C, rtC rt = C := ⟨_, rfl⟩
    have HC := Lib.hid hC
    have hCs : C.size = 7 := by rw [← hC]; rfl
    have hCo : C.all (·.oneCell') = true := by rw [← hC]; exact rtC_one _
    have hszC : (Tryz.prog.info? 34).map (·.size) = some C.size := by rw [hCs]; exact rt_size
    have hNC : N7.size = C.size := by rw [hCs, ← HN7.out]; rfl
    have HP : Hid (∀ Y : World, Below w2.heap.size w2 Y → Calls Tryz.prog 37 #[.slice A 512 c, .slice A2 n2 c2] Y (IsRtE (rt, et) Y)) := fun Y hY => by
     have := prtpick_any _ _ _ _ w2.heap.size w2.heap.size Y (HV1.out.below_ hY (Nat.le_refl _)) (HV2.out.below_ hY (Nat.le_refl _)) hY.size hY.size
     rw [← HTD.out, HRT.out] at this
     exact this
    clear CP
    go_wp2_with fail
    refine wp_cutN (R := fun a w' => ∃ g, a = { tmps := #[Value.pointer (some { block := bf, off := 0 }), Value.string name, Value.int IntKind.i64 cache, undef, undef, undef, Value.pointer none, Value.int IntKind.i64 0, Value.int IntKind.i64 sz, Value.int IntKind.i64 es, Value.slice A lb.length c, Value.int IntKind.i64 et, Value.pointer (some { block := g, off := 0 }), Value.tuple #[Value.int IntKind.i64 sz, Value.int IntKind.i64 es], Value.pointer (some { block := bf, off := 0 }), Value.string name, Value.tuple #[Value.int IntKind.i64 sz, Value.int IntKind.i64 es], Value.int IntKind.i64 sz, Value.int IntKind.i64 es, Value.int IntKind.i64 es, Value.bool false, Value.int IntKind.i64 cache, Value.bool false, Value.bool false, Value.int IntKind.i64 cache, Value.bool false, Value.bool false, Value.tuple #[Value.slice A lb.length c, Value.int IntKind.i64 0], Value.pointer (some { block := bf, off := 0 }), Value.string name, Value.tuple #[Value.slice A lb.length c, Value.int IntKind.i64 0], Value.slice A lb.length c, Value.int IntKind.i64 0, Value.int IntKind.i64 0, Value.bool false, undef, Value.slice A lb.length c, Value.int IntKind.i64 lb.length, Value.bool false, Value.tuple #[Value.agg C, Value.int IntKind.i64 et], Value.slice A lb.length c, Value.slice A 512 c, Value.slice A lb.length c, Value.slice A2 n2 c2, Value.tuple #[Value.agg C, Value.int IntKind.i64 et], Value.agg C, Value.int IntKind.i64 et, undef, undef, undef, undef, undef, undef, undef, undef, undef, undef, undef, undef, undef, undef], defers := [] } ∧ Below w2.heap.size w2 w' ∧ Rw w' g 34 C ∧ w2.heap.size ≤ g) ?_ ?_
    ·refine wp_region_m (fun w' => Below w2.heap.size w2 w') 11 (by kernel_rfl) ?_
     rw [hX]
     have hH : Below w2.heap.size w2 X := HXB.out
     refine zM (i := 0) (v := ?_) rfl (by kernel_rfl) (fun _ _ _ h => h) hH (Or.inl ⟨by rfl, (by intro w' hSw; skip; go_simp; first | done | with_reducible rfl)⟩) ?_
     try simp only [Act.put, zA, zC, zD, zE, zF]
     refine zM (i := 1) (v := ?_) rfl (by kernel_rfl) (fun _ _ _ h => h) hH (Or.inl ⟨by rfl, (by intro w' hSw; skip; go_simp; first | done | with_reducible rfl)⟩) ?_
     try simp only [Act.put, zA, zB, zC, zD, zE, zF]
     refine zM (i := 2) (v := ?_) rfl (by kernel_rfl) (fun _ _ _ h => h) hH (Or.inl ⟨by rfl, (by intro w' hSw; skip; go_simp; first | done | with_reducible rfl)⟩) ?_
     try simp only [Act.put, zA, zB, zC, zD, zE, zF]
     refine zM (i := 3) (v := ?_) rfl (by kernel_rfl) (fun _ _ _ h => h) hH (Or.inl ⟨by rfl, (by intro w' hSw; skip; go_simp; first | done | with_reducible rfl)⟩) ?_
     try simp only [Act.put, zA, zB, zC, zD, zE, zF]
     have CP := Lib.hid (HP.out X hH)
     refine wpAnyM_two (i := 4) (j := 8) (by kernel_rfl) rfl rfl (fun K hK => ?_) (fun K hK => ?_)
     ·go_simp
      refine CP.out.mono ?_
      rintro e w3 ⟨rfl, hfit, b3⟩
      have HB3 : Hid (Below w2.heap.size w2 w3) := HXB.out.trans (b3.mono HXB.out.size)
      simp only [hC]
      refine hK.out _ _ (.inr HB3.out) ?_
      have hB3 := HB3.out
      clear hK K
      try simp only [Act.put, zA, zB, zC, zD, zE, zF]
      refine zM (i := 5) (v := ?_) rfl (by kernel_rfl) (fun _ _ _ h => h) hB3 (Or.inl ⟨by rfl, (by intro w' hSw; skip; go_simp; first | done | with_reducible rfl)⟩) ?_
      try simp only [Act.put, zA, zB, zC, zD, zE, zF]
      refine zM (i := 6) (v := ?_) rfl (by kernel_rfl) (fun _ _ _ h => h) hB3 (Or.inl ⟨by rfl, (by intro w' hSw; skip; go_simp; first | done | with_reducible rfl)⟩) ?_
      try simp only [Act.put, zA, zB, zC, zD, zE, zF]
      refine zM (i := 7) (v := ?_) rfl (by kernel_rfl) (fun _ _ _ h => h) hB3 (Or.inl ⟨by rfl, (by intro w' hSw; skip; go_simp; first | done | with_reducible rfl)⟩) ?_
      try simp only [Act.put, zA, zB, zC, zD, zE, zF]
      have HX4 : Hid (Rw (w3.alloc (.cells N7 34)) w3.heap.size 34 N7) := Rw.new w3 _ _
      have HB4 : Hid (Below w2.heap.size w2 (w3.alloc (.cells N7 34))) := HB3.out.alloc HB3.out.size _
      refine wpAnyM_next (i := 8) (by kernel_rfl) rfl (fun K hK => ?_)
      go_simp
      refine hK.out _ _ (.inr HB4.out) ?_
      clear hK K
      try simp only [Act.put, zA, zB, zC, zD, zE, zF]
      refine wpAnyM_next (i := 9) (by kernel_rfl) rfl (fun K hK => ?_)
      rw [if_pos (by rfl)]
      refine wp_store_row 34 (.tmp 12) (.tmp 45) rfl w3.heap.size C rfl rfl 34 _ HX4.out hszC hNC hCo ?_
      have HR5 := Lib.hid (HX4.out.row C)
      have HB5 := Lib.hid (below_setRow HB4.out HB3.out.size C)
      refine hK.out _ _ (.inr HB5.out) ?_
      have hB5 := HB5.out
      clear hK K
      try simp only [Act.put, zA, zB, zC]
      refine zM (i := 10) (v := ?_) rfl (by kernel_rfl) (fun _ _ _ h => h) hB5 (Or.inl ⟨by rfl, (by intro w' hSw; skip; go_simp; first | done | with_reducible rfl)⟩) ?_
      try simp only [Act.put, zA, zB, zC, zD, zE, zF]
      refine wpAnyM_done (by kernel_rfl) ?_ _
      exact ⟨w3.heap.size, rfl, HB5.out, HR5.out, HB3.out.size⟩
     ·have HX4 : Hid (Rw (X.alloc (.cells N7 34)) X.heap.size 34 N7) := Rw.new X _ _
      have HB4 : Hid (Below w2.heap.size w2 (X.alloc (.cells N7 34))) := HXB.out.alloc HXB.out.size _
      go_simp
      refine hK.out _ _ (.inr HB4.out) ?_
      clear hK K CP
      try simp only [Act.put, zA, zB, zC, zD, zE, zF]
      have CP := Lib.hid (HP.out _ HB4.out)
      refine wpAnyM_next (i := 4) (by kernel_rfl) rfl (fun K hK => ?_)
      go_simp
      refine CP.out.mono ?_
      rintro e w3 ⟨rfl, hfit, b3⟩
      have HB3 : Hid (Below w2.heap.size w2 w3) := HB4.out.trans (b3.mono HB4.out.size)
      have HX3 : Hid (Rw w3 X.heap.size 34 N7) := HX4.out.below b3 HX4.out.lt
      simp only [hC]
      refine hK.out _ _ (.inr HB3.out) ?_
      have hB3 := HB3.out
      clear hK K
      try simp only [Act.put, zA, zB, zC, zD, zE, zF]
      refine zM (i := 5) (v := ?_) rfl (by kernel_rfl) (fun _ _ _ h => h) hB3 (Or.inl ⟨by rfl, (by intro w' hSw; skip; go_simp; first | done | with_reducible rfl)⟩) ?_
      try simp only [Act.put, zA, zB, zC, zD, zE, zF]
      refine zM (i := 6) (v := ?_) rfl (by kernel_rfl) (fun _ _ _ h => h) hB3 (Or.inl ⟨by rfl, (by intro w' hSw; skip; go_simp; first | done | with_reducible rfl)⟩) ?_
      try simp only [Act.put, zA, zB, zC, zD, zE, zF]
      refine zM (i := 7) (v := ?_) rfl (by kernel_rfl) (fun _ _ _ h => h) hB3 (Or.inl ⟨by rfl, (by intro w' hSw; skip; go_simp; first | done | with_reducible rfl)⟩) ?_
      try simp only [Act.put, zA, zB, zC, zD, zE, zF]
      refine wpAnyM_next (i := 9) (by kernel_rfl) rfl (fun K hK => ?_)
      rw [if_pos (by rfl)]
      refine wp_store_row 34 (.tmp 12) (.tmp 45) rfl X.heap.size C rfl rfl 34 _ HX3.out hszC hNC hCo ?_
      have HR5 := Lib.hid (HX3.out.row C)
      have HB5 := Lib.hid (below_setRow HB3.out HXB.out.size C)
      refine hK.out _ _ (.inr HB5.out) ?_
      have hB5 := HB5.out
      clear hK K
      try simp only [Act.put, zA, zB, zC]
      refine zM (i := 10) (v := ?_) rfl (by kernel_rfl) (fun _ _ _ h => h) hB5 (Or.inl ⟨by rfl, (by intro w' hSw; skip; go_simp; first | done | with_reducible rfl)⟩) ?_
      try simp only [Act.put, zA, zB, zC, zD, zE, zF]
      refine wpAnyM_done (by kernel_rfl) ?_ _
      exact ⟨X.heap.size, rfl, HB5.out, HR5.out, HXB.out.size⟩
    ·rintro a w5 ⟨g, rfl, hB5, hR5, hg5⟩
     clear hX hct hct' hf1 hf2'
     have HB5 := Lib.hid hB5
     have HR5 := Lib.hid (And.intro hR5 hg5)
     clear hB5 hR5 hg5 hz7
     dsimp only
     by_cases het : et = 0
     ·subst het
      have HOP : Hid (Pp.openE t name cache = (some ⟨name, rt, cache.toNat, [], 0⟩, 0)) := by
       unfold Hid Pp.openE
       rw [if_neg HCA.out, HG.out, if_neg (by simp)]
       simp only
       rw [if_neg (by have := HFL.out; omega), HRT.out, if_neg (by simp)]
      clear hl hd2 hCs hNC
      go_wp2_with fail
      have hca := HCA.out
      obtain ⟨cn, hcn⟩ : ∃ cn : Nat, cache = (cn : Int) := ⟨cache.toNat, by omega⟩
      have HCN := Lib.hid hcn
      obtain ⟨Y, hY⟩ : ∃ Y, w5.drew = Y := ⟨_, rfl⟩
      have HYB : Hid (Below w5.heap.size w5 Y) := by unfold Hid; rw [← hY]; exact below_drewN (Below.refl _ _) 1
      have hmk : ∀ (t : TypeId) (w : World), (Instr.makeMap t none).run Tryz.prog w = .ok (.map (some w.heap.size)) (w.alloc (.map #[] 0)) := fun t w => rfl
      clear hca hcn hC
      try simp only [Int.natCast_zero]
      refine wp_cutN (R := fun a w' => ∃ (v52 v54 v55 v56 v58 v59 v60 r6 r7 : Value) (U D P H b : Nat), a = { tmps := #[Value.pointer (some { block := bf, off := 0 }), Value.string name, Value.int IntKind.i64 cache, undef, undef, undef, r6, r7, Value.int IntKind.i64 sz, Value.int IntKind.i64 es, Value.slice A lb.length c, Value.int IntKind.i64 0, Value.pointer (some { block := g, off := 0 }), Value.tuple #[Value.int IntKind.i64 sz, Value.int IntKind.i64 es], Value.pointer (some { block := bf, off := 0 }), Value.string name, Value.tuple #[Value.int IntKind.i64 sz, Value.int IntKind.i64 es], Value.int IntKind.i64 sz, Value.int IntKind.i64 es, Value.int IntKind.i64 es, Value.bool false, Value.int IntKind.i64 cache, Value.bool false, Value.bool false, Value.int IntKind.i64 cache, Value.bool false, Value.bool false, Value.tuple #[Value.slice A lb.length c, Value.int IntKind.i64 0], Value.pointer (some { block := bf, off := 0 }), Value.string name, Value.tuple #[Value.slice A lb.length c, Value.int IntKind.i64 0], Value.slice A lb.length c, Value.int IntKind.i64 0, Value.int IntKind.i64 0, Value.bool false, undef, Value.slice A lb.length c, Value.int IntKind.i64 lb.length, Value.bool false, Value.tuple #[Value.agg C, Value.int IntKind.i64 0], Value.slice A lb.length c, Value.slice A 512 c, Value.slice A lb.length c, Value.slice A2 n2 c2, Value.tuple #[Value.agg C, Value.int IntKind.i64 0], Value.agg C, Value.int IntKind.i64 0, Value.int IntKind.i64 0, Value.bool false, undef, Value.pointer (some { block := bf, off := 0 }), Value.string name, v52, Value.agg C, v54, v55, v56, Value.int IntKind.i64 cache, v58, v59, v60], defers := [] } ∧ OpI w5 bf name rt cn (fun _ => true) v52 v54 v55 v56 v58 v59 v60 r6 r7 U D P H b w') ?_ ?_
      ·refine wp_region_m (fun w' => Below w5.heap.size w5 w') 13 (by kernel_rfl) ?_
       rw [hY]
       have hH : Below w5.heap.size w5 Y := HYB.out
       refine zM (i := 0) (v := ?_) rfl (by kernel_rfl) (fun _ _ _ h => h) hH (Or.inl ⟨by rfl, (by intro w' hSw; skip; go_simp; first | done | with_reducible rfl)⟩) ?_
       try simp only [Act.put, zA, zC, zD, zE, zF]
       refine zM (i := 1) (v := ?_) rfl (by kernel_rfl) (fun _ _ _ h => h) hH (Or.inl ⟨by rfl, (by intro w' hSw; skip; go_simp; first | done | with_reducible rfl)⟩) ?_
       try simp only [Act.put, zA, zB, zC, zD, zE, zF]
       refine zM (i := 3) (v := .agg C) rfl (by kernel_rfl) (fun _ _ _ h => h) hH (Or.inl ⟨by rfl, fun w' hSw => exec_load_row _ _ rfl g rfl 34 C (0, 0) _ w' (HR5.out.1.below hSw HR5.out.1.lt) Tryz.underlying34 rfl hszC⟩) ?_
       try simp only [Act.put, zA, zB, zC, zD, zE, zF]
       refine zM (i := 7) (v := ?_) rfl (by kernel_rfl) (fun _ _ _ h => h) hH (Or.inl ⟨by rfl, (by intro w' hSw; skip; go_simp; first | done | with_reducible rfl)⟩) ?_
       try simp only [Act.put, zA, zB, zC, zD, zE, zF]
       obtain ⟨I, hI⟩ : ∃ I : Array Bool → Act → World → Prop, (fun listed a w' => listed.size = 13 ∧ (listed.getD 0 false = true ∧ listed.getD 1 false = true ∧ listed.getD 3 false = true ∧ listed.getD 7 false = true) ∧ ∃ (v52 v54 v55 v56 v58 v59 v60 r6 r7 : Value) (U D P H b : Nat), a = { tmps := #[Value.pointer (some { block := bf, off := 0 }), Value.string name, Value.int IntKind.i64 cache, undef, undef, undef, r6, r7, Value.int IntKind.i64 sz, Value.int IntKind.i64 es, Value.slice A lb.length c, Value.int IntKind.i64 0, Value.pointer (some { block := g, off := 0 }), Value.tuple #[Value.int IntKind.i64 sz, Value.int IntKind.i64 es], Value.pointer (some { block := bf, off := 0 }), Value.string name, Value.tuple #[Value.int IntKind.i64 sz, Value.int IntKind.i64 es], Value.int IntKind.i64 sz, Value.int IntKind.i64 es, Value.int IntKind.i64 es, Value.bool false, Value.int IntKind.i64 cache, Value.bool false, Value.bool false, Value.int IntKind.i64 cache, Value.bool false, Value.bool false, Value.tuple #[Value.slice A lb.length c, Value.int IntKind.i64 0], Value.pointer (some { block := bf, off := 0 }), Value.string name, Value.tuple #[Value.slice A lb.length c, Value.int IntKind.i64 0], Value.slice A lb.length c, Value.int IntKind.i64 0, Value.int IntKind.i64 0, Value.bool false, undef, Value.slice A lb.length c, Value.int IntKind.i64 lb.length, Value.bool false, Value.tuple #[Value.agg C, Value.int IntKind.i64 0], Value.slice A lb.length c, Value.slice A 512 c, Value.slice A lb.length c, Value.slice A2 n2 c2, Value.tuple #[Value.agg C, Value.int IntKind.i64 0], Value.agg C, Value.int IntKind.i64 0, Value.int IntKind.i64 0, Value.bool false, undef, Value.pointer (some { block := bf, off := 0 }), Value.string name, v52, Value.agg C, v54, v55, v56, Value.int IntKind.i64 cache, v58, v59, v60], defers := [] } ∧ OpI w5 bf name rt cn (fun j => listed.getD j false) v52 v54 v55 v56 v58 v59 v60 r6 r7 U D P H b w') = I := ⟨_, rfl⟩
       refine wpAnyM_inv (I := I) ?_ ?_ _ _ _ _ (by decide) ?_
       rotate_left 2
       ·rw [← hI]
        refine ⟨by rfl, ⟨rfl, rfl, rfl, rfl⟩, undef, undef, undef, undef, undef, undef, undef, .pointer none, .int .i64 0, 0, 0, 0, 0, 0, rfl, HYB.out, ?_, ?_, ?_, ?_, ?_, ?_, ?_, ?_, ?_, ?_, ?_, ?_, ?_, ?_, ?_⟩ <;> (intro h; first | (exact absurd h (by decide)) | (intro h2; exact absurd h2 (by decide)))
       rotate_left 1
       ·intro listed a wi hIa hr
        rw [← hI] at hIa
        obtain ⟨hs, ⟨h0, h1, h3, h7⟩, v52, v54, v55, v56, v58, v59, v60, r6, r7, U, D, P, H, b, rfl, hO⟩ := hIa
        have h0' := h0
        rw [Array.getD_eq_getD_getElem?] at h0'
        have h1' := h1
        rw [Array.getD_eq_getD_getElem?] at h1'
        have h3' := h3
        rw [Array.getD_eq_getD_getElem?] at h3'
        have h7' := h7
        rw [Array.getD_eq_getD_getElem?] at h7'
        have g2 : listed.getD 2 false = true := ready_done (md := .any) (i := 2) hr rfl (by omega) (by simp [h1'])
        have g2' := g2
        rw [Array.getD_eq_getD_getElem?] at g2'
        have g4 : listed.getD 4 false = true := ready_done (md := .any) (i := 4) hr rfl (by omega) (by simp)
        have g4' := g4
        rw [Array.getD_eq_getD_getElem?] at g4'
        have g5 : listed.getD 5 false = true := ready_done (md := .any) (i := 5) hr rfl (by omega) (by simp)
        have g5' := g5
        rw [Array.getD_eq_getD_getElem?] at g5'
        have g6 : listed.getD 6 false = true := ready_done (md := .any) (i := 6) hr rfl (by omega) (by simp)
        have g6' := g6
        rw [Array.getD_eq_getD_getElem?] at g6'
        have g8 : listed.getD 8 false = true := ready_done (md := .any) (i := 8) hr rfl (by omega) (by simp [h7', g2'])
        have g8' := g8
        rw [Array.getD_eq_getD_getElem?] at g8'
        have g9 : listed.getD 9 false = true := ready_done (md := .any) (i := 9) hr rfl (by omega) (by simp [h0', h3', g2', g4', g5', g6', g8'])
        have g9' := g9
        rw [Array.getD_eq_getD_getElem?] at g9'
        have g10 : listed.getD 10 false = true := ready_done (md := .any) (i := 10) hr rfl (by omega) (by simp [g9'])
        have g10' := g10
        rw [Array.getD_eq_getD_getElem?] at g10'
        have g11 : listed.getD 11 false = true := ready_done (md := .any) (i := 11) hr rfl (by omega) (by simp [h0', h1', h3', h7', g2', g4', g5', g6', g8', g9', g10'])
        have g11' := g11
        rw [Array.getD_eq_getD_getElem?] at g11'
        have g12 : listed.getD 12 false = true := ready_done (md := .any) (i := 12) hr rfl (by omega) (by simp [h0', h1', h3', h7', g2', g4', g5', g6', g8', g9', g10', g11'])
        have g12' := g12
        rw [Array.getD_eq_getD_getElem?] at g12'
        exact ⟨_, _, _, _, _, _, _, _, _, _, _, _, _, _, rfl, hO.all g2 g4 g5 g6 g8 g9 g10 g11 g12⟩
       intro listed a wi hIa i hi
       rw [← hI] at hIa
       obtain ⟨hs, ⟨h0, h1, h3, h7⟩, v52, v54, v55, v56, v58, v59, v60, r6, r7, U, D, P, H, b, rfl, hO⟩ := hIa
       have hi13 : i < 13 := by
        obtain ⟨_, o, ho, _⟩ := mem_ready.1 hi
        exact (Array.getElem?_eq_some_iff.1 ho).1
       have hnot := ready_not hi
       have hgd := getD_bits (listed := listed) (i := i) (by omega)
       rcases i with _|_|_|_|_|_|_|_|_|_|_|_|_|i
       ·rw [h0] at hnot; cases hnot
       ·rw [h1] at hnot; cases hnot
       ·refine wpOp_some rfl rfl ?_
        dsimp only
        go_simp
        refine (pstrclone_any name wi hn).mono ?_
        rintro e w6 ⟨rfl, b6⟩
        refine ⟨(hO.hb.trans (b6.mono hO.hb.size)), ?_⟩
        rw [← hI]
        refine ⟨by rw [Array.size_setIfInBounds]; exact hs, ⟨by rw [hgd]; simp [h0], by rw [hgd]; simp [h1], by rw [hgd]; simp [h3], by rw [hgd]; simp [h7]⟩, _, _, _, _, _, _, _, _, _, U, D, P, H, b, rfl, ?_⟩
        rw [updB_eq listed (by omega)]
        exact (hO.below b6).s2 rfl
       ·rw [h3] at hnot; cases hnot
       ·have b6 : Below wi.heap.size wi (wi.alloc (.map #[] 0)) := (Below.refl _ _).alloc (Nat.le_refl _) _
        refine wpOp_some rfl rfl ?_
        dsimp only
        go_simp
        refine ⟨(hO.hb.trans (b6.mono hO.hb.size)), ?_⟩
        rw [← hI]
        refine ⟨by rw [Array.size_setIfInBounds]; exact hs, ⟨by rw [hgd]; simp [h0], by rw [hgd]; simp [h1], by rw [hgd]; simp [h3], by rw [hgd]; simp [h7]⟩, _, _, _, _, _, _, _, _, _, wi.heap.size, D, P, H, b, rfl, ?_⟩
        rw [updB_eq listed (by omega)]
        exact hO.s4 (m := wi.heap.size) hnot b6 (Nat.le_refl _) rfl (IsMp.made nuM wi)
       ·have b6 : Below wi.heap.size wi (wi.alloc (.map #[] 0)) := (Below.refl _ _).alloc (Nat.le_refl _) _
        refine wpOp_some rfl rfl ?_
        dsimp only
        go_simp
        refine ⟨(hO.hb.trans (b6.mono hO.hb.size)), ?_⟩
        rw [← hI]
        refine ⟨by rw [Array.size_setIfInBounds]; exact hs, ⟨by rw [hgd]; simp [h0], by rw [hgd]; simp [h1], by rw [hgd]; simp [h3], by rw [hgd]; simp [h7]⟩, _, _, _, _, _, _, _, _, _, U, wi.heap.size, P, H, b, rfl, ?_⟩
        rw [updB_eq listed (by omega)]
        exact hO.s5 (m := wi.heap.size) hnot b6 (Nat.le_refl _) rfl (IsMp.made nuM wi)
       ·have b6 : Below wi.heap.size wi (wi.alloc (.map #[] 0)) := (Below.refl _ _).alloc (Nat.le_refl _) _
        refine wpOp_some rfl rfl ?_
        dsimp only
        go_simp
        refine ⟨(hO.hb.trans (b6.mono hO.hb.size)), ?_⟩
        rw [← hI]
        refine ⟨by rw [Array.size_setIfInBounds]; exact hs, ⟨by rw [hgd]; simp [h0], by rw [hgd]; simp [h1], by rw [hgd]; simp [h3], by rw [hgd]; simp [h7]⟩, _, _, _, _, _, _, _, _, _, U, D, wi.heap.size, H, b, rfl, ?_⟩
        rw [updB_eq listed (by omega)]
        exact hO.s6 (m := wi.heap.size) hnot b6 (Nat.le_refl _) rfl (IsMp.made peM wi)
       ·rw [h7] at hnot; cases hnot
       ·refine wpOp_some rfl rfl ?_
        dsimp only
        go_simp
        refine (pyempty_any cache wi).mono ?_
        rintro e w6 ⟨H', rfl, hm6, hh6, b6⟩
        refine ⟨(hO.hb.trans (b6.mono hO.hb.size)), ?_⟩
        rw [← hI]
        refine ⟨by rw [Array.size_setIfInBounds]; exact hs, ⟨by rw [hgd]; simp [h0], by rw [hgd]; simp [h1], by rw [hgd]; simp [h3], by rw [hgd]; simp [h7]⟩, _, _, _, _, _, _, _, _, _, U, D, P, H', b, rfl, ?_⟩
        rw [updB_eq listed (by omega)]
        exact hO.s8 (m := H') hnot b6 hh6 (by rw [HCN.out]) hm6
       ·have g2 : listed.getD 2 false = true := ready_has (md := .any) hi rfl (e := ⟨2, .data⟩) (by simp) rfl
        have g4 : listed.getD 4 false = true := ready_has (md := .any) hi rfl (e := ⟨4, .data⟩) (by simp) rfl
        have g5 : listed.getD 5 false = true := ready_has (md := .any) hi rfl (e := ⟨5, .data⟩) (by simp) rfl
        have g6 : listed.getD 6 false = true := ready_has (md := .any) hi rfl (e := ⟨6, .data⟩) (by simp) rfl
        have g8 : listed.getD 8 false = true := ready_has (md := .any) hi rfl (e := ⟨8, .data⟩) (by simp) rfl
        have hv2 := hO.p2 g2
        have hv4 := (hO.p4 g4).1
        have hv5 := (hO.p5 g5).1
        have hv6 := (hO.p6 g6).1
        have hv8 := (hO.p8 g8).1
        subst hv2 hv4 hv5 hv6 hv8
        have hbt := py_built bf name rt cn U D P H
        rw [HC.out] at hbt
        obtain ⟨PC, hPC⟩ : ∃ PC, pyC bf ⟨name, rt, cn, [], 0⟩ U D P H 0 2 = PC := ⟨_, rfl⟩
        rw [hPC] at hbt
        have HPC := Lib.hid hPC
        clear hPC
        refine wpOp_some rfl rfl ?_
        unfold Oper.wp
        rw [exec_build (a := { tmps := #[Value.pointer (some { block := bf, off := 0 }), Value.string name, Value.int IntKind.i64 cache, undef, undef, undef, r6, r7, Value.int IntKind.i64 sz, Value.int IntKind.i64 es, Value.slice A lb.length c, Value.int IntKind.i64 0, Value.pointer (some { block := g, off := 0 }), Value.tuple #[Value.int IntKind.i64 sz, Value.int IntKind.i64 es], Value.pointer (some { block := bf, off := 0 }), Value.string name, Value.tuple #[Value.int IntKind.i64 sz, Value.int IntKind.i64 es], Value.int IntKind.i64 sz, Value.int IntKind.i64 es, Value.int IntKind.i64 es, Value.bool false, Value.int IntKind.i64 cache, Value.bool false, Value.bool false, Value.int IntKind.i64 cache, Value.bool false, Value.bool false, Value.tuple #[Value.slice A lb.length c, Value.int IntKind.i64 0], Value.pointer (some { block := bf, off := 0 }), Value.string name, Value.tuple #[Value.slice A lb.length c, Value.int IntKind.i64 0], Value.slice A lb.length c, Value.int IntKind.i64 0, Value.int IntKind.i64 0, Value.bool false, undef, Value.slice A lb.length c, Value.int IntKind.i64 lb.length, Value.bool false, Value.tuple #[Value.agg C, Value.int IntKind.i64 0], Value.slice A lb.length c, Value.slice A 512 c, Value.slice A lb.length c, Value.slice A2 n2 c2, Value.tuple #[Value.agg C, Value.int IntKind.i64 0], Value.agg C, Value.int IntKind.i64 0, Value.int IntKind.i64 0, Value.bool false, undef, Value.pointer (some { block := bf, off := 0 }), Value.string name, .string name, Value.agg C, .map (some U), .map (some D), .map (some P), Value.int IntKind.i64 cache, .agg #[.int .i64 (cn : Nat), .map (some H), .int .i64 0], v59, v60], defers := [] }) 79 #[(0, .tmp 50), (1, .tmp 52), (2, .tmp 53), (3, .tmp 54), (4, .tmp 55), (5, .tmp 56), (6, .tmp 58), (7, .const (.int .i64 2))] rfl PC wi (by simp only [List.map_toArray, List.map_cons, List.map_nil]; exact hbt), Oper.upon_value]
        refine ⟨.inr hO.hb, ?_⟩
        rw [← hI]
        refine ⟨by rw [Array.size_setIfInBounds]; exact hs, ⟨by rw [hgd]; simp [h0], by rw [hgd]; simp [h1], by rw [hgd]; simp [h3], by rw [hgd]; simp [h7]⟩, _, _, _, _, _, _, _, _, _, U, D, P, H, b, rfl, ?_⟩
        rw [updB_eq listed (by omega)]
        exact hO.s9 (by rw [HPC.out]) g4 g5 g6 g8
       ·have g9 : listed.getD 9 false = true := ready_has (md := .any) hi rfl (e := ⟨9, .data⟩) (by simp) rfl
        have hv9 := (hO.p9 g9).1
        subst hv9
        have b6 : Below wi.heap.size wi (wi.alloc (.cells (pyC bf ⟨name, rt, cn, [], 0⟩ U D P H 0 2) 79)) := (Below.refl _ _).alloc (Nat.le_refl _) _
        refine wpOp_some rfl rfl ?_
        dsimp only
        go_simp
        refine ⟨(hO.hb.trans (b6.mono hO.hb.size)), ?_⟩
        rw [← hI]
        refine ⟨by rw [Array.size_setIfInBounds]; exact hs, ⟨by rw [hgd]; simp [h0], by rw [hgd]; simp [h1], by rw [hgd]; simp [h3], by rw [hgd]; simp [h7]⟩, _, _, _, _, _, _, _, _, _, U, D, P, H, wi.heap.size, rfl, ?_⟩
        rw [updB_eq listed (by omega)]
        exact hO.s10 (m := wi.heap.size) hnot g9 b6 (Nat.le_refl _) rfl (Rw.new wi _ _)
       ·have g10 : listed.getD 10 false = true := ready_has (md := .any) hi rfl (e := ⟨10, .data⟩) (by simp) rfl
        refine wpOp_some rfl rfl ?_
        dsimp only
        go_simp
        refine ⟨hO.hb, ?_⟩
        rw [← hI]
        refine ⟨by rw [Array.size_setIfInBounds]; exact hs, ⟨by rw [hgd]; simp [h0], by rw [hgd]; simp [h1], by rw [hgd]; simp [h3], by rw [hgd]; simp [h7]⟩, _, _, _, _, _, _, _, _, _, U, D, P, H, b, rfl, ?_⟩
        rw [updB_eq listed (by omega)]
        exact hO.s11 g10 rfl
       ·have g11 : listed.getD 11 false = true := ready_has (md := .any) hi rfl (e := ⟨11, .chain⟩) (by simp) rfl
        refine wpOp_some rfl rfl ?_
        dsimp only
        go_simp
        refine ⟨hO.hb, ?_⟩
        rw [← hI]
        refine ⟨by rw [Array.size_setIfInBounds]; exact hs, ⟨by rw [hgd]; simp [h0], by rw [hgd]; simp [h1], by rw [hgd]; simp [h3], by rw [hgd]; simp [h7]⟩, _, _, _, _, _, _, _, _, _, U, D, P, H, b, rfl, ?_⟩
        rw [updB_eq listed (by omega)]
        exact hO.s12 g11 rfl
       ·omega
      ·rintro a w6 ⟨v52, v54, v55, v56, v58, v59, v60, r6, r7, U, D, P, H, b, rfl, hO⟩
       have hr6 := (hO.p11 rfl).1
       have hr7 := (hO.p12 rfl).1
       have hv60 := (hO.p10 rfl).1
       subst hr6
       subst hv60 hr7
       have HO6 := Lib.hid hO
       clear hO hmk
       dsimp only
       go_wp2
       go_ret2
       have hO := HO6.out
       have hb := hO.hb
       have hs2 := HB2.out.size
       have hs5 := HB5.out.size
       have hcn := HCN.out
       have hca := HCA.out
       have hmay : Rt.May rt := Rt.told_may (a := lb.take 512) (b := lb.drop 512) (by rw [← HTD.out]; exact HRT.out)
       have e0 : Pp.usedF [] = fun _ => none := Pp.unit_ext (fun k => by rw [Pp.usedF_some]; simp)
       have e1 : Pp.dropF [] = fun _ => none := Pp.unit_ext (fun k => by rw [Pp.dropF_some]; simp)
       have hp10 := hO.p10 rfl
       have hfl := HFL.out
       have hP : PyHas w6 ⟨fun q => q = b ∨ q = U ∨ q = D ∨ q = P ∨ q = H, fun _ => False⟩ ⟨name, rt, cn, [], 0⟩ (Sf.now (Sf.fileAt t k)) b bf U D P H 0 2 (fun _ => none) (fun _ => none) :=
        ⟨hp10.2.1, by rw [e0]; exact (hO.p4 rfl).2.1.mono_ (by omega), by rw [e1]; exact (hO.p5 rfl).2.1.mono_ (by omega), (hO.p6 rfl).2.1.mono_ (by omega), (hO.p8 rfl).2.1.mono_ (by omega), fun _ _ h => (by cases h), fun _ h => (by cases h), fun _ _ h => (by cases h), (by rw [Pp.cnt_none]; exact Nat.zero_le _), Nat.le_refl _, (by omega), fun q h1 h2 => (by omega),
         ⟨hmay, List.Pairwise.nil, fun _ h => (by cases h), HRT.out, hfl.2, (by show cn ≤ 256; omega), hnm⟩, fun _ => Iff.rfl, fun _ h => h.elim, hp10.2.2.2.1, ⟨hO.d45 rfl rfl, hO.d46 rfl rfl, hO.d48 rfl rfl⟩, ⟨hO.d56 rfl rfl, hO.d58 rfl rfl⟩, hO.d68 rfl rfl⟩
       have hco : cache.toNat = cn := by omega
       refine ⟨HB2.out.trans ((HB5.out.trans (hb.mono hs5)).mono hs2), .inr ⟨_, b, ⟨fun q => q = b ∨ q = U ∨ q = D ∨ q = P ∨ q = H, fun _ => False⟩, HOP.out, rfl, ?_, ?_⟩⟩
       ·rw [hco, show (Sf.get t name).1 = k by rw [HG.out]]
        exact ⟨U, D, P, H, 0, 2, _, _, hP⟩
       ·intro q hq
        have g1 := hp10.2.2.1
        have g2 := (hO.p4 rfl).2.2
        have g3 := (hO.p5 rfl).2.2
        have g4 := (hO.p6 rfl).2.2
        have g5 := (hO.p8 rfl).2.2
        rcases hq with hq | hq
        ·rcases hq with rfl | rfl | rfl | rfl | rfl <;> omega
        ·exact hq.elim
     ·have HO : Hid (Pp.openE t name cache = (none, et)) := by
       have h7 : et = 7 := by
        have h1 := Rt.pick_err (lb.take 512) (lb.drop 512)
        rw [← HTD.out, HRT.out] at h1
        exact h1.resolve_left het
       unfold Hid Pp.openE
       rw [if_neg HCA.out, HG.out, if_neg (by simp)]
       simp only
       rw [if_neg (by have := HFL.out; omega), HRT.out, if_pos het, h7]
      have hne : ((et : Int) == 0) = false := by rw [beq_eq_false_iff_ne]; omega
      clear hl hCs hNC
      go_wp2
      go_ret2
      exact IsOpen.no (HB2.out.trans (HB5.out.mono HB2.out.size)) HO.out rfl
  ·have HO : Hid (Pp.openE t name cache = (none, er)) := by
    unfold Hid Pp.openE
    rw [if_neg HCA.out, HG.out, if_pos (by simpa using he)]
   simp only [ne_eq, he, not_false_eq_true, if_true] at CR
   have hne : ((er : Int) == 0) = false := by rw [beq_eq_false_iff_ne]; omega
   clear CS b1
   go_wp2_with fail
   refine CR.out.mono ?_
   rintro e w2 ⟨A, c, rfl, ho, b2⟩
   have HB2 := Lib.hid (HB1.out.trans (b2.mono HB1.out.size))
   clear CR ho b2
   simp only
   go_wp2
   go_ret2
   exact IsOpen.no HB2.out HO.out rfl
end
end Go.Proofs.YtiafeniflkikeaaGreat
namespace Go.Proofs.YtiafeniflkikeaaGreat
open Go.RowKit
set_option linter.unusedVariables false
section
variable {w : World} {v : Value}
end
end Go.Proofs.YtiafeniflkikeaaGreat
namespace Go.Proofs.YtiafeniflkikeaaGreat
open Go.RowKit
set_option linter.unusedVariables false
section
variable {w : World} {v : Value}
end
end Go.Proofs.YtiafeniflkikeaaGreat
