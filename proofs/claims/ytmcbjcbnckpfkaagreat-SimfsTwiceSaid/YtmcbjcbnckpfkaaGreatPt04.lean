/-
  CutM: Cuts of a slice by two and by three indexes, in whatever world.
  OpenL: An argument that is a slice of whatever elements, opened as a list: from how one element reads.
  FrameB: From what a row says of a slice of bytes to a list (Lv yK).
-/
import Derived.Test.YtmcbjcbnckpfkaaGreatPt03
import Derived.Test.YtmcbjcbnckpfkaaGreatPt01
import Derived.Deep.Slices
import Derived.Deep.Fields
import Derived.OpenShut
namespace Go.Proofs.YtmcbjcbnckpfkaaGreat
open Go.RowKit
set_option linter.unusedVariables false

section
variable {P : Program} {α : Type}
/-- A slice that holds a list holds it with less room too. -/
theorem Lv.room_ {K : El P α} {w : World} {B n c c' : Nat} {A : Option Addr} {l : List α} (h : Lv K w B (.slice A n c) l) (h1 : n ≤ c') (h2 : c' ≤ c) : Lv K w B (.slice A n c') l := by
  obtain ⟨A0, c0, e, k1, k2, k3, k4, k5⟩ := h
  simp only [Value.slice.injEq] at e
  obtain ⟨rfl, rfl, rfl⟩ := e
  exact ⟨A, c', rfl, h1, Nat.le_trans h2 k2, fun e => by have := k3 e; omega, k4, k5⟩
/-- The address of a cut. -/
def cutAddr (A : Option Addr) (lo mx s : Nat) : Option Addr := if mx = lo then A else A.map (·.add (lo * s))
theorem cut_lv {K : El P α} {w : World} {B n c lo hi mx : Nat} {A : Option Addr} {l : List α} (h : Lv K w B (.slice A n c) l) (h1 : lo ≤ hi) (h2 : hi ≤ n) (h3 : hi ≤ mx) (h4 : mx ≤ c) :
    Lv K w B (.slice (cutAddr A lo mx K.size) (hi - lo) (mx - lo)) ((l.drop lo).take (hi - lo)) := by
  obtain ⟨e1, e2, e3⟩ := h.len_
  unfold cutAddr
  by_cases hc : mx = lo
  · rw [if_pos hc, show hi - lo = 0 by omega, show mx - lo = 0 by omega, List.take_zero]
    exact ⟨A, 0, rfl, by simp, by simp [maxLen], by simp, by simp, by simp⟩
  · rw [if_neg hc]
    have hd := h.drop_ (k := lo) (by omega)
    have ht := hd.take_ (k := hi - lo) (by rw [List.length_drop]; omega)
    exact ht.room_ (by omega) (by omega)
theorem cut_own (A : Option Addr) (lo mx s n c n' c' : Nat) : (Value.slice (cutAddr A lo mx s) n c).ownBlock = (Value.slice A n' c').ownBlock := by
  unfold cutAddr
  split
  · cases A <;> rfl
  · cases A with
    | none => rfl
    | some a => simp [Value.ownBlock, Addr.add]; split <;> rfl
theorem cut_lhm (K : El P α) (he : P.elem K.s = K.e) (A : Option Addr) (n c lo hi mx : Nat) (h1 : lo ≤ hi) (h3 : hi ≤ mx) (h4 : mx ≤ c) :
    (∀ w, (Instr.slice K.s (.slice A n c) (some (.int .i64 (lo : Nat))) (some (.int .i64 (hi : Nat))) (some (.int .i64 (mx : Nat)))).run P w = .ok (.slice (cutAddr A lo mx K.size) (hi - lo) (mx - lo)) w) ∧
    (∀ w, (Instr.sliceAt K.s (.slice A n c) (some (.int .i64 (lo : Nat))) (some (.int .i64 (hi : Nat))) (some (.int .i64 (mx : Nat)))).run P w = .ok (.slice (cutAddr A lo mx K.size) (hi - lo) (mx - lo)) w) := by
  have hu : P.underlying K.s = some (.slice (P.elem K.s)) := by rw [he]; exact K.under
  have h : ∀ w, (Instr.slice K.s (.slice A n c) (some (.int .i64 (lo : Nat))) (some (.int .i64 (hi : Nat))) (some (.int .i64 (mx : Nat)))).run P w = .ok (.slice (cutAddr A lo mx K.size) (hi - lo) (mx - lo)) w := by
    intro w
    rw [run_slice_lhm (P := P) w K.s A n c hu .i64 .i64 .i64 (lo : Nat) (hi : Nat) (mx : Nat) (by omega) (by omega) (by omega) (by omega), elem_size K he]
    simp only [Result.andThen, sliced, Int.toNat_natCast, cutAddr]
  exact ⟨h, fun w => by rw [run_sliceAt_slice (P := P) w _ _ _ _ _ hu]; exact h w⟩
theorem cut_hm (K : El P α) (he : P.elem K.s = K.e) (A : Option Addr) (n c hi mx : Nat) (h3 : hi ≤ mx) (h4 : mx ≤ c) :
    (∀ w, (Instr.slice K.s (.slice A n c) none (some (.int .i64 (hi : Nat))) (some (.int .i64 (mx : Nat)))).run P w = .ok (.slice A hi mx) w) ∧
    (∀ w, (Instr.sliceAt K.s (.slice A n c) none (some (.int .i64 (hi : Nat))) (some (.int .i64 (mx : Nat)))).run P w = .ok (.slice A hi mx) w) := by
  have hu : P.underlying K.s = some (.slice (P.elem K.s)) := by rw [he]; exact K.under
  have h : ∀ w, (Instr.slice K.s (.slice A n c) none (some (.int .i64 (hi : Nat))) (some (.int .i64 (mx : Nat)))).run P w = .ok (.slice A hi mx) w := by
    intro w
    rw [run_slice_hm (P := P) w K.s A n c hu .i64 .i64 (hi : Nat) (mx : Nat) (by omega) (by omega) (by omega), elem_size K he]
    simp only [Result.andThen, sliced, Int.toNat_natCast, Nat.zero_mul, Nat.sub_zero]
    have e : A.map (·.add 0) = A := by cases A <;> simp [addr_none]
    simp [addr_none]
  exact ⟨h, fun w => by rw [run_sliceAt_slice (P := P) w _ _ _ _ _ hu]; exact h w⟩
theorem cut_lh (K : El P α) (he : P.elem K.s = K.e) (A : Option Addr) (n c lo hi : Nat) (h1 : lo ≤ hi) (h3 : hi ≤ c) :
    (∀ w, (Instr.slice K.s (.slice A n c) (some (.int .i64 (lo : Nat))) (some (.int .i64 (hi : Nat))) none).run P w = .ok (.slice (cutAddr A lo c K.size) (hi - lo) (c - lo)) w) ∧
    (∀ w, (Instr.sliceAt K.s (.slice A n c) (some (.int .i64 (lo : Nat))) (some (.int .i64 (hi : Nat))) none).run P w = .ok (.slice (cutAddr A lo c K.size) (hi - lo) (c - lo)) w) := by
  have hu : P.underlying K.s = some (.slice (P.elem K.s)) := by rw [he]; exact K.under
  have h : ∀ w, (Instr.slice K.s (.slice A n c) (some (.int .i64 (lo : Nat))) (some (.int .i64 (hi : Nat))) none).run P w = .ok (.slice (cutAddr A lo c K.size) (hi - lo) (c - lo)) w := by
    intro w
    rw [run_slice_lh (P := P) w K.s A n c hu .i64 .i64 (lo : Nat) (hi : Nat) (by omega) (by omega) (by omega), elem_size K he]
    simp only [Result.andThen, sliced, Int.toNat_natCast, cutAddr]
  exact ⟨h, fun w => by rw [run_sliceAt_slice (P := P) w _ _ _ _ _ hu]; exact h w⟩
end
end Go.Proofs.YtmcbjcbnckpfkaaGreat
namespace Go.Proofs.YtmcbjcbnckpfkaaGreat
open Go.ChangeShapes Go.WideShapes Go.RowKit Go.Deep
set_option linter.unusedVariables false

theorem lv_open {H : Type} {enc : TypeId × Value → H} {P : Program} {w : World} {base : Nat} {spare : Nat → Bool} {held : Bool} {α : Type} (K : El P α) (hce : P.cellsOf K.e = K.size)
    (dec : ∀ (fuel : Nat) (cs : List Value) (x : DataW H × List MemPlace), DataW.trod enc P w base spare held fuel K.e cs = some x → ∃ a, K.ok a ∧ cs = K.enc a)
    {fuel : Nat} {a : Option Addr} {len cap : Nat} {x : DataW H × List MemPlace} (h : DataW.trod enc P w base spare held fuel K.s [.slice a len cap] = some x) :
    ∃ l : List α, l.length = len ∧ Lv K w w.heap.size (.slice a len cap) l := by
  rcases open_slice K.under h with ⟨h0, _⟩ | ⟨ad, len', cap', m, n, D, Pl, h0, _, hl, hm, hmm, _, hx⟩
  · simp at h0
    obtain ⟨rfl, rfl, rfl⟩ := h0
    exact ⟨[], rfl, Lv.nil_ _ _ _⟩
  · simp at h0
    obtain ⟨rfl, rfl, rfl⟩ := h0
    have hlm : len ≤ m := by rw [hmm]; split <;> omega
    haveI : Inhabited α := ⟨K.z⟩
    obtain ⟨f, hf⟩ := choose_lt (α := α) (n := len) (p := fun i y => K.ok y ∧ ∀ j u, (K.enc y)[j]? = some u → w.cell? ((ad.add (i * K.size)).add j) = some u) (fun i hi => by
      obtain ⟨cs', h1, h2⟩ := hx i (by omega)
      obtain ⟨y, hy, rfl⟩ := dec _ _ _ h2
      rw [hce] at h1
      obtain ⟨_, _, hcell⟩ := World.cells?_some h1
      refine ⟨y, hy, fun j u hj => ?_⟩
      have hjs : j < K.size := by have := (List.getElem?_eq_some_iff.1 hj).1; rw [K.len] at this; exact this
      rw [hcell j hjs]
      exact hj)
    have hlen : ((List.range len).map f).length = len := by simp
    refine ⟨(List.range len).map f, hlen, some ad, cap, by rw [hlen], by omega, hm, by simp, ?_, fun hp => ?_⟩
    · intro y hy
      obtain ⟨i, hi, rfl⟩ := List.mem_map.1 hy
      exact (hf i (List.mem_range.1 hi)).1
    · rw [hlen] at hp
      obtain ⟨b, off, spot⟩ := ad
      have hs0 := K.pos
      have hz : (K.enc (f 0)).length = K.size := K.len _
      have hc0 := (hf 0 hp).2 0 _ (List.getElem?_eq_getElem (by omega))
      have hspot : spot = none := by simpa [Addr.add] using World.cell?_spot hc0
      subst hspot
      simp only [add_addr] at hf hc0
      refine ⟨b, off, rfl, World.block_lt_of_cell? w _ hc0, fun j u hj => ?_⟩
      have hj2 : j < len * K.size := by have := (List.getElem?_eq_some_iff.1 hj).1; rw [flat_len, hlen] at this; exact this
      have hq : j / K.size < len := (Nat.div_lt_iff_lt_mul hs0).2 hj2
      have hr : j % K.size < K.size := Nat.mod_lt _ hs0
      have hat := flat_at (K := K) (l := (List.range len).map f) (i := j / K.size) (x := f (j / K.size)) (by simp [hq]) hr
      rw [Nat.div_add_mod' j K.size] at hat
      rw [hat] at hj
      have := (hf _ hq).2 _ u hj
      rw [Nat.add_assoc, Nat.div_add_mod' j K.size] at this
      exact this

/-- A struct of fields of one cell each, field by field. -/
theorem dec_fields {H : Type} {enc : TypeId × Value → H} {P : Program} {w : World} {base : Nat} {spare : Nat → Bool} {held : Bool} {t : TypeId} {fs : Array Field} (ht : P.underlying t = some (.struct fs)) (hone : oneCellFields P fs = true) (hC : P.cellsOf t = fs.size)
    {fuel : Nat} {cs : List Value} {x : DataW H × List MemPlace} (h : DataW.trod enc P w base spare held fuel t cs = some x) :
    cs.length = fs.size ∧ ∀ (i : Nat) (f : Field), fs[i]? = some f → ∃ n v y, cs[i]? = some v ∧ DataW.trod enc P w base spare held n f.type [v] = some y := by
  obtain ⟨xs, n, _, _, hl, hxl, hf⟩ := DataW.trod_struct ht h
  rw [hC] at hl
  refine ⟨hl, fun i f hi => ?_⟩
  have hlt : i < fs.size := (Array.getElem?_eq_some_iff.1 hi).1
  obtain ⟨h1, h2⟩ := hone_of hone i f hi
  have h3 := hf i f hi
  rw [h1, h2, take1_drop cs i undef (by omega)] at h3
  refine ⟨n, cs.getD i undef, xs[i]'(by omega), by rw [List.getD_eq_getElem?_getD, List.getElem?_eq_getElem (by omega)]; rfl, ?_⟩
  rw [h3, List.getElem?_eq_getElem (by omega)]
theorem dec_int {H : Type} {enc : TypeId × Value → H} {P : Program} {w : World} {base : Nat} {spare : Nat → Bool} {held : Bool} {t : TypeId} {k : IntKind} (ht : P.underlying t = some (.int k)) {fuel : Nat} {v : Value} {x : DataW H × List MemPlace}
    (h : DataW.trod enc P w base spare held fuel t [v] = some x) : ∃ n, v = .int k n ∧ (Lit.int k n).wf = true := by
  obtain ⟨n, hn, _, hw⟩ := DataW.trod_int ht h
  exact ⟨n, by simpa using hn, hw⟩
theorem dec_str {H : Type} {enc : TypeId × Value → H} {P : Program} {w : World} {base : Nat} {spare : Nat → Bool} {held : Bool} {t : TypeId} (ht : P.underlying t = some .string) {fuel : Nat} {v : Value} {x : DataW H × List MemPlace}
    (h : DataW.trod enc P w base spare held fuel t [v] = some x) : ∃ s : ByteArray, v = .string s ∧ s.size ≤ maxLen := by
  obtain ⟨s, hs, _, hw⟩ := DataW.trod_string ht h
  exact ⟨s, by simpa using hs, hw⟩
theorem dec_bool {H : Type} {enc : TypeId × Value → H} {P : Program} {w : World} {base : Nat} {spare : Nat → Bool} {held : Bool} {t : TypeId} (ht : P.underlying t = some .bool) {fuel : Nat} {v : Value} {x : DataW H × List MemPlace}
    (h : DataW.trod enc P w base spare held fuel t [v] = some x) : ∃ b : Bool, v = .bool b := by
  obtain ⟨b, hb, _⟩ := DataW.trod_bool ht h
  exact ⟨b, by simpa using hb⟩
end Go.Proofs.YtmcbjcbnckpfkaaGreat
namespace Go.Proofs.YtmcbjcbnckpfkaaGreat
open Go.ChangeShapes Go.WideShapes Go.RowKit
set_option linter.unusedVariables false

theorem octs_in {H : Type} {enc : TypeId × Value → H} {w : World} {sp : Nat → Bool} {held : Bool} {fuel : Nat} {a : Option Addr} {len cap : Nat} {x : DataW H × List MemPlace} (h : DataW.trod enc Tryz.prog w 0 sp held fuel 33 [.slice a len cap] = some x) :
    ∃ l : List Nat, l.length = len ∧ Lv yK w w.heap.size (.slice a len cap) l :=
  lv_open yK (by kernel_rfl) (fun fuel cs x h => by
    obtain ⟨n, rfl, _, hw⟩ := DataW.trod_int Tryz.underlying5 h
    have hb := bounds_u8 hw
    obtain ⟨t, rfl⟩ := Int.eq_ofNat_of_zero_le hb.1
    exact ⟨t, (by show _ < _; omega), rfl⟩) h
end Go.Proofs.YtmcbjcbnckpfkaaGreat
