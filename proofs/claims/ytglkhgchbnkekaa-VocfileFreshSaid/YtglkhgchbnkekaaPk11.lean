/-
  Heap: A slice of the call's own that is known to its room's end: its block, and copy into it.
  Inv: A region whose order is drawn, by an invariant over what has come up.
  LAns: Words for what calls answer: a list in new memory, a list and an error.
-/
import Derived.Test.YtglkhgchbnkekaaPk01
import Derived.Laws.CopyOwn
import Derived.Test.YtglkhgchbnkekaaProg
import Derived.WalkKit
import Derived.StillTailTactics
import Derived.Deep.WholeRow
import Derived.Test.YtglkhgchbnkekaaPk02
namespace Go.Proofs.Ytglkhgchbnkekaa
open Go.RowKit
set_option linter.unusedVariables false

theorem OwnB.of_heap {w : World} {base g : Nat} {l : List Nat} (hb : base ≤ g) (hl : ∀ x ∈ l, x < 256) (hm : l.length ≤ maxLen) (h : w.heap[g]? = some (.cells (l.map u8).toArray 5 (0, 0))) :
    OwnB w base (.slice (some ⟨g, 0, none⟩) l.length l.length) l :=
  ⟨hl, by simp, .inr ⟨g, l.length, (l.map u8).toArray, rfl, hb, h, Nat.le_refl _, hm, by simp, by rw [Nat.mul_one]; exact List.take_of_length_le (by simp)⟩⟩
theorem OwnB.heap_ {w : World} {base g : Nat} {l : List Nat} (h : OwnB w base (.slice (some ⟨g, 0, none⟩) l.length l.length) l) : base ≤ g ∧ w.heap[g]? = some (.cells (l.map u8).toArray 5 (0, 0)) := by
  rcases h.2.2 with ⟨e, _⟩ | ⟨g', cap, cur, e, hb, hh, _, _, hs, ht⟩
  · cases e
  · injection e with e1 e2 e3
    injection e1 with e1
    injection e1 with e1
    subst e1 e3
    refine ⟨hb, ?_⟩
    rw [hh]
    congr 2
    rw [List.take_of_length_le (by rw [Array.length_toList]; omega)] at ht
    rw [← ht]
theorem zeros_heap {w : World} {base g n : Nat} (h : w.ownsRow base 5 1 (.slice (some ⟨g, 0, none⟩) n n) n (madeCells (Value.int .u8 0).cells (n * 1)).toList) :
    w.heap[g]? = some (.cells (List.replicate n (Value.int .u8 0)).toArray 5 (0, 0)) := by
  have e : (madeCells (Value.int .u8 0).cells (n * 1)).toList = (List.replicate n 0).map u8 := by
    rw [Nat.mul_one]
    show (madeCells #[Value.int .u8 0] n).toList = _
    rw [toList_madeCells_one, List.map_replicate]; rfl
  rw [e] at h
  have hl : (List.replicate n 0).length = n := List.length_replicate
  have hO : OwnB w base (.slice (some ⟨g, 0, none⟩) (List.replicate n 0).length (List.replicate n 0).length) (List.replicate n 0) := by
    refine ⟨fun x hx => by rw [List.eq_of_mem_replicate hx]; decide, ?_⟩
    rw [hl]; exact h
  have h2 := hO.heap_.2
  rw [List.map_replicate] at h2
  exact h2

theorem size5 : (Try.prog.info? 5).map (·.size) = some 1 := by kernel_rfl
/-- copy into a slice of the call's own, from place k on. -/
theorem copy_own {w : World} {base g : Nat} {z m : List Nat} {B k dl dc : Nat} {x : Value} (h : OwnB w base (.slice (some ⟨g, 0, none⟩) z.length z.length) z) (hm : z.length ≤ maxLen) (hx : Bv w B x m) (hfit : k + m.length ≤ z.length) (hd : m.length ≤ dl) :
    ∃ w2, (Builtin.copy_ #[27, 27] 3 #[.slice (some ⟨g, k, none⟩) dl dc, x]).run Try.prog w = .ok (.int .i64 (m.length : Nat)) w2 ∧
      OwnB w2 base (.slice (some ⟨g, 0, none⟩) z.length z.length) (z.take k ++ m ++ z.drop (k + m.length)) ∧ w.grownBy w2 (some g) := by
  obtain ⟨A, c, rfl, _, _, _, hb⟩ := hx
  obtain ⟨hbg, hh⟩ := h.heap_
  by_cases h0 : 0 < m.length
  · obtain ⟨b, off, rfl, _, hc⟩ := hb.2 h0
    have hsrc : ∀ j v, (m.map u8)[j]? = some v → w.cell? ((⟨b, off, none⟩ : Addr).add j) = some v := by
      intro j v hv
      rw [List.getElem?_map] at hv
      cases hj : m[j]? with
      | none => rw [hj] at hv; cases hv
      | some y =>
        rw [hj] at hv
        have ea : (⟨b, off, none⟩ : Addr).add j = ⟨b, off + j, none⟩ := by unfold Addr.add; split <;> simp_all
        rw [ea, hc j y hj]
        simpa [u8] using hv
    have hrun := run_copy_row (P := Try.prog) w 27 27 3 5 g k dl dc ⟨b, off, none⟩ m.length c _ 5 (m.map u8) Try.underlying27 size5 hh
      (by rw [List.length_map]; exact (Nat.min_eq_left hd).symm) hsrc (by simpa using hfit) (by intro u hu; obtain ⟨_, _, rfl⟩ := List.mem_map.1 hu; rfl)
    have hlen : (z.take k ++ m ++ z.drop (k + m.length)).length = z.length := by simp; omega
    have h2 := setRow_heap w g _ ((z.take k ++ m ++ z.drop (k + m.length)).map u8).toArray _ _ hh
    have e : ((z.map u8).toArray.toList.take k ++ m.map u8 ++ (z.map u8).toArray.toList.drop (k + (m.map u8).length)).toArray = ((z.take k ++ m ++ z.drop (k + m.length)).map u8).toArray := by
      simp [List.map_take, List.map_drop]
    rw [e] at hrun
    refine ⟨w.setRow g ((z.take k ++ m ++ z.drop (k + m.length)).map u8).toArray, ?_, ?_, ⟨rfl, rfl, rfl, by simp, fun i _ hi => setRow_other w g i _ (fun e => hi (by rw [e]))⟩⟩
    · rw [hrun, List.length_map]; rfl
    have h3 := OwnB.of_heap (l := z.take k ++ m ++ z.drop (k + m.length)) hbg (by
      intro y hy
      rcases List.mem_append.1 hy with hy | hy
      · rcases List.mem_append.1 hy with hy | hy
        · exact h.1 y (List.mem_of_mem_take hy)
        · exact hb.1 y hy
      · exact h.1 y (List.mem_of_mem_drop hy)) (by rw [hlen]; exact hm) h2
    rw [hlen] at h3
    exact h3
  · obtain rfl : m = [] := List.eq_nil_of_length_eq_zero (by omega)
    have hrun := run_copy_none (P := Try.prog) w 27 27 3 5 (some ⟨g, k, none⟩) A dl dc 0 c Try.underlying27 size5 (by simp)
    refine ⟨w, by simpa [goInt] using hrun, ?_, ⟨rfl, rfl, rfl, Nat.le_refl _, fun _ _ _ => rfl⟩⟩
    simpa using h
end Go.Proofs.Ytglkhgchbnkekaa
namespace Go.Proofs.Ytglkhgchbnkekaa
open Go.RowKit
set_option linter.unusedVariables false

section
variable {P : Program} {ops : Array Oper} {Q : Exit → Act → World → Prop} {md : Region.Mode}
theorem ready_false {listed : Array Bool} {i : Nat} (h : i ∈ Region.ready md ops listed) : listed.toList[i]? = some false := by
  have h1 := (mem_ready.1 h).1
  rcases Nat.lt_or_ge i listed.size with h' | h'
  · simp [h'] at h1
    simp [h', h1]
  · simp [Array.getElem?_eq_none h'] at h1
theorem wpAny_inv {I : Array Bool → Act → World → Prop}
    (hstep : ∀ listed a w, I listed a w → ∀ i ∈ Region.ready md ops listed, wpOp P ops Q i (I (listed.setIfInBounds i true)) a w)
    (hend : ∀ listed a w, I listed a w → Region.ready md ops listed = [] → Q .normal a w) :
    ∀ (fuel : Nat) (listed : Array Bool) (a : Act) (w : World), listed.toList.count false ≤ fuel → I listed a w → wpAny P md ops Q fuel listed a w
  | 0, listed, a, w, hc, hI => by
    have h0 : Region.ready md ops listed = [] := by
      apply List.eq_nil_iff_forall_not_mem.2
      intro i hi
      have h1 := ready_false hi
      have h2 : false ∈ listed.toList := List.mem_of_getElem? h1
      have h3 : 0 < listed.toList.count false := List.count_pos_iff.2 h2
      omega
    exact ⟨h0, hend _ _ _ hI h0⟩
  | fuel + 1, listed, a, w, hc, hI => by
    refine ⟨fun h0 => hend _ _ _ hI h0, fun i hi => wpOp_mono (fun a' w' h' => wpAny_inv hstep hend fuel _ a' w' ?_ h') (hstep _ _ _ hI i hi)⟩
    have h1 := ready_false hi
    obtain ⟨hlt, he⟩ := List.getElem?_eq_some_iff.1 h1
    rw [Array.toList_setIfInBounds, List.count_set hlt, he]
    simp only [show (false == false) = true from rfl, show (true == false) = false from rfl, if_true, Bool.false_eq_true, if_false]
    omega
theorem wpOp_some {i : Nat} {o : Oper} {K : Act → World → Prop} {a : Act} {w : World} (hi : ops[i]? = some o) (hg : o.guard = none) (h : o.wp P a w K Q) : wpOp P ops Q i K a w := by
  unfold wpOp
  simp only [hi]
  rw [if_pos (by simp [Region.wanted, hg])]
  exact .inl h
/-- What it waits for has come up. -/
theorem ready_has {listed : Array Bool} {i : Nat} {o : Oper} (h : i ∈ Region.ready md ops listed) (hi : ops[i]? = some o) {e : Edge} (he : e ∈ o.after) (hb : Region.binds md e = true) : listed.getD e.on false = true := by
  obtain ⟨_, o', ho', hall⟩ := mem_ready.1 h
  have : o' = o := Option.some.inj (ho'.symm.trans hi)
  subst this
  exact hall e he hb
/-- Nothing may come up any more: whatever waits for none that lacks has come up. -/
theorem ready_done {listed : Array Bool} {i : Nat} {o : Oper} (h : Region.ready md ops listed = []) (hi : ops[i]? = some o) (hl : i < listed.size)
    (ha : ∀ e ∈ o.after, Region.binds md e = true → listed.getD e.on false = true) : listed.getD i false = true := by
  cases hb : listed.getD i false with
  | true => rfl
  | false =>
    have : i ∈ Region.ready md ops listed := mem_ready.2 ⟨by simp [hl] at hb ⊢; exact hb, o, hi, ha⟩
    rw [h] at this
    cases this
theorem ready_not {listed : Array Bool} {i : Nat} (h : i ∈ Region.ready md ops listed) : listed.getD i false = false := by
  have h1 := ready_false h
  obtain ⟨hlt, he⟩ := List.getElem?_eq_some_iff.1 h1
  simp at hlt he
  simp [hlt, he]
theorem getD_bits {listed : Array Bool} {i : Nat} (h : i < listed.size) (j : Nat) : (listed.setIfInBounds i true).getD j false = (decide (i = j) || listed.getD j false) := by
  by_cases hij : i = j
  · subst hij
    simp [h]
  · simp [Array.getElem?_setIfInBounds_ne hij, hij]
/-- A whole array, read in a region whose order is drawn. -/
theorem wpStill_load_row {w : World} {R : Act → Prop} {a : Act} {o : Oper} {rest : List Oper} (hgd : o.guard = none) (ty : TypeId) (x : Operand) (ho : o.op = .load ty x)
    (g : Nat) (hx : a.eval x = .pointer (some ⟨g, 0, none⟩)) (t : TypeId) (cs : Array Value) (fr : Nat × Nat) (d : TypeDesc) (hg : w.heap[g]? = some (.cells cs t fr))
    (hu : P.underlying ty = some d) (hd : (match d with | .struct _ | .array _ _ => true | _ => false) = true) (hi : (P.info? ty).map (·.size) = some cs.size)
    (h : wpStill P ops w R rest (a.put o.dst (.agg cs))) : wpStill P ops w R (o :: rest) a :=
  wpStill_step fun K hK => by
    rw [if_pos (by simp [Region.wanted, hgd])]
    unfold Oper.still execOp
    simp only [ho, hx, Instr.loadAt, Instr.sureAddr, Sem.run_bind, Sem.run_pure, Result.andThen_ok, run_loadVar_row w g t ty cs fr d hg hu hd hi, Oper.stillUpon]
    exact ⟨trivial, hK _ h⟩
end
end Go.Proofs.Ytglkhgchbnkekaa
namespace Go.Proofs.Ytglkhgchbnkekaa
open Go.RowKit
set_option linter.unusedVariables false

section
variable {P : Program} {α : Type}
/-- A call that answers this list in new memory, and turns nothing that was there. -/
def IsL1 (K : El P α) (l : List α) (w : World) (e : Ending) (w' : World) : Prop :=
  ∃ A c, e = .returned (.slice A l.length c) ∧ OwnL K w' w.heap.size (.slice A l.length c) l ∧ Below w.heap.size w w'
/-- A call that answers this list in new memory and an error, and turns nothing that was there. -/
def IsLE (K : El P α) (r : List α × Nat) (w : World) (e : Ending) (w' : World) : Prop :=
  ∃ A c, e = .returned (.tuple #[.slice A r.1.length c, .int .i64 r.2]) ∧ OwnL K w' w.heap.size (.slice A r.1.length c) r.1 ∧ Below w.heap.size w w'
/-- A call that answers nothing, and turns but one slice of the caller's own. -/
def IsTurned (v : Value) (w : World) (e : Ending) (w' : World) : Prop := (∃ x, e = .returned x) ∧ w.grownBy w' v.ownBlock
/-- A call that answers an error, and turns nothing that was there. -/
def IsErr (n : Nat) (w : World) (e : Ending) (w' : World) : Prop := e = .returned (.int .i64 (n : Nat)) ∧ Below w.heap.size w w'

variable {K : El P α}
theorem IsLE.none_ {w : World} {r : List α × Nat} {e : Nat} {x : Int} (h : r = ([], e)) (hx : x = (e : Nat)) : IsLE K r w (.returned (.tuple #[.slice none 0 0, .int .i64 x])) w := by
  subst h hx; exact ⟨none, 0, rfl, OwnL.nil_ _ _ _, Below.refl _ _⟩
theorem IsLE.none_b {w w' : World} {r : List α × Nat} {e : Nat} {x : Int} (h : r = ([], e)) (hx : x = (e : Nat)) (hb : Below w.heap.size w w') : IsLE K r w (.returned (.tuple #[.slice none 0 0, .int .i64 x])) w' := by
  subst h hx; exact ⟨none, 0, rfl, OwnL.nil_ _ _ _, hb⟩
theorem IsLE.of {w w' : World} {r : List α × Nat} {y : List α} {e c n : Nat} {x : Int} {A : Option Addr} (h : r = (y, e)) (hn : n = y.length) (hx : x = (e : Nat)) (ho : OwnL K w' w.heap.size (.slice A n c) y) (hb : Below w.heap.size w w') :
    IsLE K r w (.returned (.tuple #[.slice A n c, .int .i64 x])) w' := by subst h hx hn; exact ⟨A, c, rfl, ho, hb⟩
/-- What a call of a list and an error answered, where it is known. -/
theorem IsLE.out_ {w w' : World} {e : Ending} {r : List α × Nat} (h : IsLE K r w e w') {l : List α} {n : Nat} (hr : r = (l, n)) :
    ∃ A c, e = .returned (.tuple #[.slice A l.length c, .int .i64 n]) ∧ OwnL K w' w.heap.size (.slice A l.length c) l ∧ Below w.heap.size w w' := by subst hr; exact h
theorem grownBy_trans {w w1 w2 : World} {r : Option Nat} (h : w.grownBy w1 r) (h2 : w1.grownBy w2 r) : w.grownBy w2 r :=
  ⟨h2.os.trans h.os, h2.tape.trans h.tape, h2.output.trans h.output, Nat.le_trans h.size h2.size, fun k hk hne => (h2.block k (Nat.lt_of_lt_of_le hk h.size) hne).trans (h.block k hk hne)⟩
/-- What a call turned but in blocks from B on, or in the row of one own slice. -/
theorem Below.turned {w w1 w2 : World} {B : Nat} {v : Value} (h : Below B w w1) (hg : w1.grownBy w2 v.ownBlock) (hB : B ≤ w1.heap.size) (hv : ∀ k, v.ownBlock = some k → B ≤ k) : Below B w w2 := h.grown hg hB hv
end
end Go.Proofs.Ytglkhgchbnkekaa
