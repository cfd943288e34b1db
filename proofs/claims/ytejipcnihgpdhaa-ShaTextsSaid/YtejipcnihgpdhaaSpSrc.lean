/-
  A slice of bytes that lies apart from a hash; the copy into a hash, and what is cut.
-/
import Derived.Test.YtejipcnihgpdhaaSpNew
import Derived.Laws.CopyOwn
namespace Go.Proofs.Ytejipcnihgpdhaa
open Go.RowKit
set_option linter.unusedVariables false

/-- The value v is a slice that holds the bytes l, in a block that is not g. -/
def Sv (w : World) (g : Nat) (v : Value) (l : List Nat) : Prop := ∃ A c, v = .slice A l.length c ∧ l.length ≤ c ∧ c ≤ maxLen ∧ (∀ x ∈ l, x < 256) ∧
  (A = none → c = 0) ∧ (0 < l.length → ∃ b off, A = some ⟨b, off, none⟩ ∧ b ≠ g ∧ b < w.heap.size ∧ ∀ j x, l[j]? = some x → w.cell? ⟨b, off + j, none⟩ = some (.int .u8 (x : Nat)))
theorem Bv.src {w : World} {B g : Nat} {v : Value} {l : List Nat} (h : Bv w B v l) (hB : B ≤ g) (hg : g < w.heap.size) : Sv w g v l := by
  obtain ⟨A, c, rfl, h1, h2, h3, h4, h5⟩ := h
  refine ⟨A, c, rfl, h1, h2, h4, h3, fun hp => ?_⟩
  obtain ⟨b, off, e, hb, hc⟩ := h5 hp
  exact ⟨b, off, e, by omega, by omega, hc⟩
theorem OwnB.src {w : World} {base g : Nat} {v : Value} {l : List Nat} (h : OwnB w base v l) (hg : g < base) : Sv w g v l := by
  obtain ⟨A, c, rfl, h1, h2, h3, h4, h5⟩ := h.form_
  refine ⟨A, c, rfl, h1, h2, h4, h3, fun hp => ?_⟩
  obtain ⟨b, off, e, hb, hc⟩ := h5 hp
  subst e
  have := (h.lt_ b rfl).1
  exact ⟨b, off, rfl, by omega, hb, hc⟩
theorem Sv.kept {w w' : World} {g : Nat} {v : Value} {l : List Nat} (h : Sv w g v l) (hk : w.grownBy w' (some g)) : Sv w' g v l := by
  obtain ⟨A, c, rfl, h1, h2, h3, h4, h5⟩ := h
  refine ⟨A, c, rfl, h1, h2, h3, h4, fun hp => ?_⟩
  obtain ⟨b, off, e, hb, hbs, hc⟩ := h5 hp
  exact ⟨b, off, e, hb, Nat.lt_of_lt_of_le hbs hk.size, fun j x hj => (World.cell?_of_block (a := ⟨b, off + j, none⟩) (hk.block b hbs (by simpa using hb))).trans (hc j x hj)⟩
theorem but_trans {w w' w'' : World} {g : Nat} (h : w.grownBy w' (some g)) (k : w'.grownBy w'' (some g)) : w.grownBy w'' (some g) :=
  ⟨k.os.trans h.os, k.tape.trans h.tape, k.output.trans h.output, Nat.le_trans h.size k.size, fun i hi hn => (k.block i (Nat.lt_of_lt_of_le hi h.size) hn).trans (h.block i hi hn)⟩
theorem but_refl (w : World) (g : Nat) : w.grownBy w (some g) := ⟨rfl, rfl, rfl, Nat.le_refl _, fun _ _ _ => rfl⟩
theorem grown_drew (w : World) (g : Nat) : w.grownBy w.drew (some g) := ⟨rfl, rfl, rfl, Nat.le_refl _, fun _ _ _ => rfl⟩
theorem grown_below {w w' : World} (g : Nat) (h : Below w.heap.size w w') : w.grownBy w' (some g) := ⟨h.os, h.tape, h.output, h.size, fun i hi _ => h.block i hi⟩
theorem grown_setCell (w : World) (g k : Nat) (v : Value) : w.grownBy (w.setCell ⟨g, k, none⟩ v) (some g) :=
  ⟨rfl, rfl, rfl, by simp, fun i hi hn => Below.heap_setCell w _ v i (by simpa using hn)⟩
theorem grown_setCells (g : Nat) : ∀ (vs : List Value) (o : Nat) (w : World), w.grownBy (w.setCells g o vs) (some g)
  | [], _, w => but_refl w g
  | v :: vs, o, w => but_trans (grown_setCell w g o v) (grown_setCells g vs (o + 1) _)
theorem below_grown {B g : Nat} {a w w' : World} (h : Below B a w) (hg : w.grownBy w' (some g)) (hB : B ≤ w.heap.size) (hr : B ≤ g) : Below B a w' :=
  h.grown hg hB (fun k hk => by injection hk with hk; omega)

/-- The part of a hash's rest from place k on. -/
theorem rest_from (g k : Nat) (hk : k < 64) (w : World) :
    (Instr.sliceAt 24 (.pointer (some ⟨g, 9, none⟩)) (some (.int .u64 (k : Nat))) none none).run Try.prog w = .ok (.slice (some ⟨g, 9 + k, none⟩) (64 - k) (64 - k)) w := by
  have h1 : (0 : Int) ≤ (k : Int) := by omega
  have h3 : (k : Int).toNat = k := by omega
  have h4 : ¬ 64 = k := by omega
  simp [go_sem, Instr.sliceAt, Instr.sliceBounds, Instr.sliceBound, h1, h3, h4]
  intro h
  omega
/-- What copy leaves, into a hash's rest from place k on. -/
theorem copy_rest {w : World} {g b off ln c : Nat} {s : Sh.St} {r x : List Nat} {n k : Nat} (h : Rw w g 50 (hc true s r n)) (hr : r.length = 64) (hk : k < 64)
    (hx : x.length = Nat.min ln (64 - k)) (hc' : ∀ j y, x[j]? = some y → w.cell? ⟨b, off + j, none⟩ = some (.int .u8 (y : Nat))) :
    (Builtin.copy_ #[28, 28] 3 #[.slice (some ⟨g, 9 + k, none⟩) (64 - k) (64 - k), .slice (some ⟨b, off, none⟩) ln c]).run Try.prog w = .ok (.int .i64 (x.length : Nat)) (w.setRow g (hc true s (Sh.fill r k x) n)) := by
  have hx64 : k + x.length ≤ 64 := by
    have h1 : Nat.min ln (64 - k) ≤ 64 - k := Nat.min_le_right _ _
    rw [hx]; omega
  have hrun := run_copy_row (P := Try.prog) w 28 28 3 5 g (9 + k) (64 - k) (64 - k) ⟨b, off, none⟩ ln c _ 50 (x.map u8) Try.underlying28 size5 h
    (by rw [List.length_map]; exact hx) (fun j v hv => by
      rw [List.getElem?_map] at hv
      cases hj : x[j]? with
      | none => rw [hj] at hv; cases hv
      | some y =>
        rw [hj] at hv
        rw [Addr.add_mid, hc' j y hj]
        simpa [u8] using hv) (by rw [hc_size hr, List.length_map]; omega) (by intro u hu; obtain ⟨_, _, rfl⟩ := List.mem_map.1 hu; rfl)
  rw [hrun, hc_copy hr hx64, List.length_map]
  rfl
theorem grown_setRow (w : World) (g : Nat) (c : Array Value) : w.grownBy (w.setRow g c) (some g) := ⟨rfl, rfl, rfl, by simp, fun i _ hi => setRow_other w g i _ (fun e => hi (by rw [e]))⟩
/-- The rest of a slice that lies apart. -/
theorem Sv.cut {w : World} {g b off n c : Nat} {l : List Nat} (h : Sv w g (.slice (some ⟨b, off, none⟩) n c) l) {k : Nat} (hk : k ≤ n) :
    ∃ v, (∀ w, (Instr.sliceAt 28 (.slice (some ⟨b, off, none⟩) n c) (some (.int .i64 (k : Nat))) none none).run Try.prog w = .ok v w) ∧ Sv w g v (l.drop k) := by
  obtain ⟨A', c', e, h1, h2, h3, h4, h5⟩ := h
  injection e with e1 e2 e3
  subst e1 e2 e3
  have hs (w : World) : (sizeOf (Try.prog.elem 28)).run Try.prog w = .ok 1 w := by
    obtain ⟨i, hi, _, hs, _⟩ := info_parts info5
    have he : Try.prog.elem 28 = 5 := by kernel_rfl
    rw [he]
    simp [sizeOf, typeInfo, hi, hs]
  refine ⟨sliced (some ⟨b, off, none⟩) k l.length c 1, fun w => ?_, ?_⟩
  · rw [run_sliceAt_slice (P := Try.prog) w _ _ _ _ _ Try.underlying28, run_slice_l (P := Try.prog) w 28 _ l.length c Try.underlying28 .i64 (k : Nat) (by omega) (by omega), hs]
    simp [Result.andThen]
  · have hl : (l.drop k).length = l.length - k := List.length_drop
    by_cases hck : c = k
    · refine ⟨some ⟨b, off, none⟩, 0, ?_, by omega, by omega, fun x hx => h3 x (List.mem_of_mem_drop hx), by simp, fun hp => by omega⟩
      simp [sliced, hck]
    · refine ⟨some ⟨b, off + k, none⟩, c - k, ?_, by omega, by omega, fun x hx => h3 x (List.mem_of_mem_drop hx), by simp, fun hp => ?_⟩
      · simp [sliced, hck, Addr.add_mid]
      · obtain ⟨b', off', e, hb, hbs, hcl⟩ := h5 (by omega)
        injection e with e
        injection e with e4 e5
        subst e4 e5
        refine ⟨b, off + k, rfl, hb, hbs, fun j x hj => ?_⟩
        rw [List.getElem?_drop] at hj
        rw [Nat.add_assoc]
        exact hcl (k + j) x hj
end Go.Proofs.Ytejipcnihgpdhaa
