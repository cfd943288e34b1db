/-
  FrameR: From what a row says of its arguments to the words of this text: a list of rows of bytes.
  SfBlocks: Chapter 14: a write over a file that is sure, torn: each block is as it was, or as it became.
  MakeOn: make of a list, where its guard lets it.
-/
import Derived.Test.YtmcbjcbnckpfkaaPk32
import Derived.Test.YtmcbjcbnckpfkaaPk31
import Derived.Deep.Matrix
import Derived.Test.YtmcbjcbnckpfkaaPk24
import Derived.Test.YtmcbjcbnckpfkaaPk01
namespace Go.Proofs.Ytmcbjcbnckpfkaa
open Go.ChangeShapes Go.WideShapes Go.ChangeAt Go.RowKit Go.Deep
set_option linter.unusedVariables false

theorem cat_bulk {H : Type} (f : Nat → List Nat) (g : Nat → DataW H) (rs : List Nat) : (∀ r ∈ rs, (f r).length ≤ Rows.uptoBulk (g r)) → (cat (rs.map f)).length ≤ Rows.uptoBulkAll (rs.map g) := by
  induction rs with
  | nil => intro _; simp [cat]
  | cons r rs ih =>
    intro h
    have h1 := ih (fun x hx => h x (by simp [hx]))
    have h2 := h r (by simp)
    simp only [List.map_cons, Rows.uptoBulkAll, cat, List.flatten_cons, List.length_append] at h1 ⊢
    omega

theorem rows_in {H : Type} {w : World} {base : Nat} {a : Addr} {len cap : Nat} {A : Nat → Option Addr} {L C : Nat → Nat} {Z : Nat → List Int} {d : DataW H} (hl : len ≤ cap) (hm : cap ≤ maxLen)
    (hd : d = .slice ((List.range len).map fun r => intRow .u8 (A r) (L r) (Z r)) ((List.range (cap - len)).map fun j => intRow .u8 (A (len + j)) (L (len + j)) (Z (len + j))))
    (h : ∀ r, r < cap → w.cell? (a.add r) = some (.slice (A r) (L r) (C r)) ∧ L r ≤ C r ∧ C r ≤ maxLen ∧ (Z r).length = C r ∧ (∀ n ∈ Z r, (Lit.int .u8 n).wf = true) ∧ (A r = none → C r = 0) ∧
        ∀ a', A r = some a' → base ≤ a'.block ∧ ∀ c, c < C r → w.cell? (a'.add c) = some (.int .u8 ((Z r).getD c 0))) :
    ∃ ls : List (List Nat), Rv w w.heap.size (.slice (some a) len cap) ls ∧ ls.length ≤ Rows.uptoBulk d ∧ (cat ls).length ≤ Rows.uptoBulk d := by
  have each : ∀ r, ∃ l : List Nat, r < len → l.length = L r ∧ Bv w w.heap.size (.slice (A r) (L r) (C r)) l := by
    intro r
    by_cases hr : r < len
    · obtain ⟨_, h1, h2, h3, h4, h5, h6⟩ := h r (by omega)
      have hb : ∃ l : List Nat, l.length = L r ∧ Bv w w.heap.size (.slice (A r) (L r) (C r)) l := by
        refine bytes_in ?_
        cases hA : A r with
        | none =>
          have := h5 hA
          exact .inl ⟨rfl, by omega, this⟩
        | some x =>
          obtain ⟨_, h7⟩ := h6 x hA
          exact .inr ⟨x, Z r, rfl, h1, h2, h3, fun i hi => h7 i (by omega), h4⟩
      obtain ⟨l, e⟩ := hb
      exact ⟨l, fun _ => e⟩
    · exact ⟨[], fun h => absurd h hr⟩
  let f : Nat → List Nat := fun r => Classical.choose (each r)
  have hf : ∀ r, r < len → (f r).length = L r ∧ Bv w w.heap.size (.slice (A r) (L r) (C r)) (f r) := fun r => Classical.choose_spec (each r)
  have hlen : ((List.range len).map f).length = len := by simp
  refine ⟨(List.range len).map f, ⟨some a, cap, by rw [hlen], by rw [hlen]; exact hl, hm, by simp, fun hp => ?_⟩, ?_, ?_⟩
  · rw [hlen] at hp
    obtain ⟨b, off, spot⟩ := a
    have hc := (h 0 (by omega)).1
    have hspot : spot = none := by simpa [Addr.add] using World.cell?_spot hc
    subst hspot
    refine ⟨b, off, rfl, ?_, fun j l hj => ?_⟩
    · rw [addr_add] at hc
      exact World.block_lt_of_cell? w _ hc
    · have hj' : j < len := by have := (List.getElem?_eq_some_iff.1 hj).1; omega
      rw [List.getElem?_map, List.getElem?_range hj'] at hj
      obtain rfl := Option.some.inj hj
      have hc2 := (h j (by omega)).1
      rw [addr_add] at hc2
      exact ⟨_, hc2, (hf j hj').2⟩
  · rw [hlen, hd]
    have := bulk_len ((List.range len).map fun r => intRow (H := H) .u8 (A r) (L r) (Z r))
    rw [List.length_map, List.length_range] at this
    simp only [Rows.uptoBulk]
    omega
  · rw [hd]
    have h1 := cat_bulk f (fun r => intRow (H := H) .u8 (A r) (L r) (Z r)) (List.range len) (fun r hr => by
      have hr' : r < len := List.mem_range.1 hr
      rw [(hf r hr').1]
      obtain ⟨_, h1, h2, h3, h4, h5, h6⟩ := h r (by omega)
      cases hA : A r with
      | none => have := h5 hA; omega
      | some x => exact bulk_ints _ _ _ (by omega))
    simp only [Rows.uptoBulk]
    omega
end Go.Proofs.Ytmcbjcbnckpfkaa
namespace Go.Proofs.Ytmcbjcbnckpfkaa.Sf
open Go.RowKit
set_option linter.unusedVariables false
def wrS (s : ByteArray) (z : List Nat) (a : Act) : St := ⟨1048576, [⟨z, [a]⟩], [(s, 0)], [], [(s, 0)], 5, 0, false⟩
theorem wr_one (s : ByteArray) {z b : List Nat} {a : Nat} (h : a + b.length ≤ z.length) (hz : z.length ≤ 1048576) : write (oneSure s z 4) s (a : Nat) b = (0, wrS s z ⟨false, a, b⟩) := by
  have hg : get (oneSure s z 4) s = (0, 0) := get_one rfl rfl
  have hl : len (oneSure s z 4) 0 = z.length := by simp [len, oneSure, fileAt, now]
  unfold write
  rw [hg, if_neg (by simp), hl, if_neg (by omega), Int.toNat_natCast, if_neg (by omega)]
  rfl
theorem wr_len {z b : List Nat} {a : Nat} (h : a + b.length ≤ z.length) : (done z ⟨false, a, b⟩).length = z.length := by rw [done_len_put (by omega)]; omega
theorem wr_read (s : ByteArray) {z b : List Nat} {a : Nat} (h : a + b.length ≤ z.length) : read (wrS s z ⟨false, a, b⟩) s 0 (z.length : Nat) = (done z ⟨false, a, b⟩, 0) := by
  have hg : get (wrS s z ⟨false, a, b⟩) s = (0, 0) := get_one rfl rfl
  unfold read
  rw [hg, if_neg (by simp), if_neg (by omega)]
  have e : now (fileAt (wrS s z ⟨false, a, b⟩) 0) = done z ⟨false, a, b⟩ := rfl
  rw [e, Int.toNat_natCast]
  show (((done z ⟨false, a, b⟩).drop 0).take z.length, 0) = _
  rw [List.drop_zero, List.take_of_length_le (by rw [wr_len h]; exact Nat.le_refl _)]
/-- What is left of it. -/
theorem wr_left (s : ByteArray) {z b : List Nat} {a : Nat} (h : a + b.length ≤ z.length) (hz : z.length ≤ 1048576) (l : List Int) :
    ∃ r, read (fail (wrS s z ⟨false, a, b⟩) l) s 0 1048576 = (r, 0) ∧ (r = z ∨ r = done z ⟨false, a, b⟩ ∨ ∃ m, m ≤ b.length ∧ r = torn z ⟨false, a, b⟩ m) := by
  have hf : find (dirOf (wrS s z ⟨false, a, b⟩) l) s = some 0 := by rw [dirOf_sure rfl]; simp [wrS, find]
  obtain ⟨l', e⟩ := fail_read hf 1048576 (by decide)
  have hfile : fileAt (wrS s z ⟨false, a, b⟩) 0 = ⟨z, [⟨false, a, b⟩]⟩ := rfl
  rw [hfile] at e
  have htl : ∀ m, m ≤ b.length → (torn z ⟨false, a, b⟩ m).length = z.length := by
    intro m hm
    unfold torn
    simp only
    generalize (if a + m < z.length then (a + m) / 512 * 512 else a + m) = e
    split
    · rfl
    · rw [done_len_put (by omega), List.length_take]; omega
  rcases kept1_cases ⟨z, [⟨false, a, b⟩]⟩ l' with ⟨k, hk, h1⟩ | ⟨k, x, m, hx, _, hm, h1⟩
  · simp only [List.length_singleton] at hk
    rcases Nat.le_one_iff_eq_zero_or_eq_one.1 hk with rfl | rfl
    · have h2 : bytes ⟨z, [⟨false, a, b⟩]⟩ 0 = z := rfl
      rw [h1, h2, List.take_of_length_le (by simpa using hz)] at e
      exact ⟨z, e, .inl rfl⟩
    · have h2 : bytes ⟨z, [⟨false, a, b⟩]⟩ 1 = done z ⟨false, a, b⟩ := rfl
      rw [h1, h2, List.take_of_length_le (by rw [wr_len h]; simpa using hz)] at e
      exact ⟨_, e, .inr (.inl rfl)⟩
  · have hk : k = 0 := by
      have := (List.getElem?_eq_some_iff.1 hx).1
      simp only [List.length_singleton] at this
      omega
    subst hk
    simp at hx
    subst hx
    have h2 : bytes ⟨z, [⟨false, a, b⟩]⟩ 0 = z := rfl
    rw [h1, h2, List.take_of_length_le (by rw [htl m hm]; simpa using hz)] at e
    exact ⟨_, e, .inr (.inr ⟨m, hm, rfl⟩)⟩
theorem take_done {z b : List Nat} {a e : Nat} (h : a + b.length ≤ z.length) (h1 : a ≤ e) (h2 : e ≤ a + b.length) : (done z ⟨false, a, b⟩).take e = z.take a ++ b.take (e - a) := by
  unfold done
  simp only [Bool.false_eq_true, if_false]
  rw [List.append_assoc, List.take_append, List.length_take, Nat.min_eq_left (by omega), List.take_of_length_le (by rw [List.length_take]; omega), List.take_append]
  rw [show e - a - b.length = 0 by omega, List.take_zero, List.append_nil]
theorem blocks {z b r : List Nat} {a : Nat} (h : a + b.length ≤ z.length) (h5 : z.length % 512 = 0) (hr : r = z ∨ r = done z ⟨false, a, b⟩ ∨ ∃ m, m ≤ b.length ∧ r = torn z ⟨false, a, b⟩ m) :
    r.length = z.length ∧ ∀ n, n % 512 = 0 → n + 512 ≤ z.length → (r.drop n).take 512 = (z.drop n).take 512 ∨ (r.drop n).take 512 = ((done z ⟨false, a, b⟩).drop n).take 512 := by
  rcases hr with rfl | rfl | ⟨m, hm, rfl⟩
  · exact ⟨rfl, fun n _ _ => .inl rfl⟩
  · exact ⟨wr_len h, fun n _ _ => .inr rfl⟩
  · unfold torn
    simp only
    obtain ⟨e, he⟩ : ∃ e, (if a + m < z.length then (a + m) / 512 * 512 else a + m) = e := ⟨_, rfl⟩
    rw [he]
    have hem : e ≤ a + m := by rw [← he]; split <;> omega
    have he5 : e % 512 = 0 := by rw [← he]; split <;> omega
    split
    · exact ⟨rfl, fun n _ _ => .inl rfl⟩
    · rename_i hea
      have hl : (b.take (e - a)).length = e - a := by rw [List.length_take]; omega
      refine ⟨by rw [done_len_put (by omega), hl]; omega, fun n hn hn2 => ?_⟩
      by_cases hne : n + 512 ≤ e
      · right
        have h1 : (done z ⟨false, a, b.take (e - a)⟩).take e = (done z ⟨false, a, b⟩).take e := by
          rw [take_done h (by omega) (by omega), take_done (by omega) (by omega) (by omega), List.take_take, Nat.min_self]
        have key : ∀ x : List Nat, (x.drop n).take 512 = ((x.take e).drop n).take 512 := fun x => by
          rw [List.drop_take, List.take_take, Nat.min_eq_left (by omega)]
        rw [key, h1, ← key]
      · left
        have hd : (done z ⟨false, a, b.take (e - a)⟩).drop n = z.drop n := by
          unfold done
          simp only [Bool.false_eq_true, if_false]
          rw [hl, show a + (e - a) = e by omega, List.append_assoc, List.drop_append, List.length_take, Nat.min_eq_left (by omega), List.drop_of_length_le (by rw [List.length_take]; omega), List.nil_append, List.drop_append, hl, List.drop_of_length_le (by omega), List.nil_append, List.drop_drop]
          congr 1
          omega
        rw [hd]
theorem zero_block (s n : Nat) (h : n + 512 ≤ s) : ((List.replicate s 0).drop n).take 512 = List.replicate 512 0 := by
  rw [List.drop_replicate, List.take_replicate]
  congr 1
  omega
end Go.Proofs.Ytmcbjcbnckpfkaa.Sf
namespace Go.Proofs.Ytmcbjcbnckpfkaa
open Go.RowKit
set_option linter.unusedVariables false
section
variable {P : Program} {α : Type}
theorem wpList_make_on (w : World) {ops : Array Oper} {rest : List Oper} {o : Oper} {a : Act} {Q : Exit → Act → World → Prop} (K : El P α) (hw : Region.wanted o (yielded ops a.tmps) = true) (lo co : Operand) (hop : o.op = Op.makeSlice K.s lo co)
    (base : Nat) (kl kc : IntKind) (L C : Int) (m n : Nat) (hl : a.eval lo = .int kl L) (hc : a.eval co = .int kc C) (hL : L = (m : Int)) (hC : C = (n : Int)) (hmn : m ≤ n) (hby : K.bytes * n ≤ 281474976710656) (h63 : n ≤ maxLen) (hbase : base ≤ w.heap.size)
    (hK : ∀ w', OwnL K w' base (.slice (some ⟨w.heap.size, 0, none⟩) m n) (List.replicate m K.z) → w.grownBy w' none → wpList P ops Q rest (a.put o.dst (.slice (some ⟨w.heap.size, 0, none⟩) m n)) w') : wpList P ops Q (o :: rest) a w := by
  refine wpList_step fun K' hK' => ?_
  rw [if_pos hw]
  subst hL hC
  obtain ⟨w', hrun, r1, r2⟩ := run_make_l K w base kl kc m n hmn hby h63 hbase
  unfold Oper.wp
  simp [execOp, hop, hl, hc, hrun, Result.andThen]
  exact hK' _ _ (hK w' r1 r2)
end
end Go.Proofs.Ytmcbjcbnckpfkaa
