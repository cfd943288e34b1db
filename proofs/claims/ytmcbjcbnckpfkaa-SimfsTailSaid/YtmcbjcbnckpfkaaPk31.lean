/-
  Slice: The first bytes of a slice that may be nil: what cutting it answers, in one word.
  RowsG: A list of rows of bytes that a call makes by append, in memory of its own: rows, each in memory of the call's own too.
  SizeR: stookref00.Size: how many rows and bytes there are, up to some number.
-/
import Derived.Test.YtmcbjcbnckpfkaaPk26
import Derived.BigRegion
import Derived.JoinedCond
namespace Go.Proofs.Ytmcbjcbnckpfkaa
open Go.RowKit

set_option maxRecDepth 100000 in
theorem addr_zero (a : Addr) : a.add 0 = a := by
  unfold Addr.add
  split <;> simp_all
set_option maxRecDepth 100000 in
theorem slice_to (A : Option Addr) (n c m : Nat) (h : m ≤ c) (w : World) :
    (Instr.slice 22 (.slice A n c) none (some (.int .i64 (m : Nat))) none).run Try.prog w = .ok (.slice A m c) w := by
  have h1 : (sizeOf (Try.prog.elem 22)).run Try.prog w = .ok 1 w := by
    obtain ⟨i, hi, _, hs, _⟩ := info_parts info5
    have he : Try.prog.elem 22 = 5 := by kernel_rfl
    rw [he]
    simp [sizeOf, typeInfo, hi, hs]
  rw [run_slice_h (P := Try.prog) w 22 A n c Try.underlying22 .i64 (m : Nat) (by omega) (by omega), h1]
  simp only [Result.andThen, sliced, Int.toNat_natCast, Nat.zero_mul, Nat.sub_zero]
  have e : A.map (·.add 0) = A := by cases A <;> simp [addr_zero]
  simp [addr_zero]
set_option maxRecDepth 100000 in
theorem sliceAt_to (A : Option Addr) (n c m : Nat) (h : m ≤ c) (w : World) :
    (Instr.sliceAt 22 (.slice A n c) none (some (.int .i64 (m : Nat))) none).run Try.prog w = .ok (.slice A m c) w := by
  rw [run_sliceAt_slice (P := Try.prog) w _ _ _ _ _ Try.underlying22]
  exact slice_to A n c m h w
end Go.Proofs.Ytmcbjcbnckpfkaa
namespace Go.Proofs.Ytmcbjcbnckpfkaa
open Go.RowKit
set_option linter.unusedVariables false

theorem info22 : (Try.prog.info? 22).map (fun i => (i.zero, i.size, i.bytes)) = some (some (.slice none 0 0), 1, 24) := by kernel_rfl

/-- The value v is a slice of rows that hold these bytes, in blocks below B. -/
def Rv (w : World) (B : Nat) (v : Value) (ls : List (List Nat)) : Prop :=
  ∃ A c, v = .slice A ls.length c ∧ ls.length ≤ c ∧ c ≤ maxLen ∧ (A = none → c = 0) ∧ (0 < ls.length → ∃ b off, A = some ⟨b, off, none⟩ ∧ b < B ∧ ∀ (j : Nat) (l : List Nat), ls[j]? = some l → ∃ u, w.cell? ⟨b, off + j, none⟩ = some u ∧ Bv w B u l)
/-- The call's own slice v, in a block from base on, of rows that hold these bytes, each in a block of the call's own; full: without spare room. -/
def OwnR (full : Bool) (w : World) (base : Nat) (v : Value) (ls : List (List Nat)) : Prop :=
  ∃ us : List Value, us.length = ls.length ∧ w.ownsRow base 22 1 v us.length us ∧ ∀ (j : Nat) (u : Value) (l : List Nat), us[j]? = some u → ls[j]? = some l → (∃ A c, u = .slice A l.length c ∧ (full = true → c = l.length)) ∧ OwnB w base u l

theorem Rv.at_ {w : World} {B n c : Nat} {A : Option Addr} {ls : List (List Nat)} (h : Rv w B (.slice A n c) ls) {k : Nat} (hk : k < ls.length) :
    ∃ b off A' c' x, A = some ⟨b, off, none⟩ ∧ b < B ∧ ls[k]? = some x ∧ w.cell? ⟨b, off + k, none⟩ = some (.slice A' x.length c') ∧ Bv w B (.slice A' x.length c') x := by
  obtain ⟨A', c', e, h1, h2, h3, h4⟩ := h
  injection e with e1 e2 e3
  subst e1
  obtain ⟨b, off, rfl, hb, hc⟩ := h4 (by omega)
  obtain ⟨u, hu, hv⟩ := hc k _ (List.getElem?_eq_getElem hk)
  obtain ⟨A2, c2, rfl, _⟩ := id hv
  exact ⟨b, off, A2, c2, _, rfl, hb, List.getElem?_eq_getElem hk, hu, hv⟩
section
variable {w w' : World} {base B : Nat} {v : Value} {ls : List (List Nat)} {full : Bool}
theorem Rv.below_ (h : Rv w B v ls) {B' : Nat} (hb : Below B' w w') (hB : B ≤ B') : Rv w' B v ls := by
  obtain ⟨A, c, e, h1, h2, h3, h4⟩ := h
  refine ⟨A, c, e, h1, h2, h3, fun hp => ?_⟩
  obtain ⟨b, off, e, hlt, hc⟩ := h4 hp
  refine ⟨b, off, e, hlt, fun j l hj => ?_⟩
  obtain ⟨u, hu, hv⟩ := hc j l hj
  exact ⟨u, (hb.cell (p := ⟨b, off + j, none⟩) (by show b < B'; omega)).trans hu, hv.below_ hb hB⟩
theorem Rv.mono_ (h : Rv w B v ls) {B' : Nat} (hB : B ≤ B') : Rv w B' v ls := by
  obtain ⟨A, c, e, h1, h2, h3, h4⟩ := h
  refine ⟨A, c, e, h1, h2, h3, fun hp => ?_⟩
  obtain ⟨b, off, e, hlt, hc⟩ := h4 hp
  refine ⟨b, off, e, by omega, fun j l hj => ?_⟩
  obtain ⟨u, hu, hv⟩ := hc j l hj
  exact ⟨u, hu, hv.mono_ hB⟩
theorem Rv.nil_ (w : World) (B : Nat) : Rv w B (.slice none 0 0) [] := ⟨none, 0, rfl, by simp, by simp [maxLen], by simp, by simp⟩
theorem Rv.take_ {A : Option Addr} {n c : Nat} (h : Rv w B (.slice A n c) ls) {k : Nat} (hk : k ≤ ls.length) : Rv w B (.slice A k c) (ls.take k) := by
  obtain ⟨A', c', e, h1, h2, h3, h4⟩ := h
  injection e with e1 e2 e3
  subst e1 e3
  have hl : (ls.take k).length = k := by rw [List.length_take]; omega
  refine ⟨A, c, by rw [hl], by rw [hl]; omega, h2, h3, fun hp => ?_⟩
  obtain ⟨b, off, e, hlt, hc⟩ := h4 (by rw [hl] at hp; omega)
  refine ⟨b, off, e, hlt, fun j l hj => ?_⟩
  rw [List.getElem?_take] at hj
  split at hj
  · exact hc j l hj
  · cases hj

theorem OwnR.nil_ (full : Bool) (w : World) (base : Nat) : OwnR full w base (.slice none 0 0) [] := ⟨[], rfl, World.ownsRow_nil w base _ 1, fun j u l hu => by simp at hu⟩
theorem ownsRow_below {e : TypeId} {size n : Nat} {xs : List Value} (h : w.ownsRow base e size v n xs) {B : Nat} (hb : Below B w w') (hB : w.heap.size ≤ B) : w'.ownsRow base e size v n xs := by
  refine ⟨h.1, ?_⟩
  rcases h.2 with hn | ⟨g, cap, cur, rfl, hg, hh, hr⟩
  · exact .inl hn
  · refine .inr ⟨g, cap, cur, rfl, hg, ?_, hr⟩
    have hlt : g < w.heap.size := (Array.getElem?_eq_some_iff.1 hh).1
    rw [hb.block g (by omega)]
    exact hh
theorem OwnR.below_ (h : OwnR full w base v ls) {B : Nat} (hb : Below B w w') (hB : w.heap.size ≤ B) : OwnR full w' base v ls := by
  obtain ⟨us, h1, h2, h3⟩ := h
  exact ⟨us, h1, ownsRow_below h2 hb hB, fun j u l hu hl => ⟨(h3 j u l hu hl).1, (h3 j u l hu hl).2.below_ hb hB⟩⟩
theorem ownsRow_mono {e : TypeId} {size n : Nat} {xs : List Value} (h : w.ownsRow base e size v n xs) {base' : Nat} (hb : base' ≤ base) : w.ownsRow base' e size v n xs := by
  refine ⟨h.1, ?_⟩
  rcases h.2 with hn | ⟨g, cap, cur, rfl, hg, hr⟩
  · exact .inl hn
  · exact .inr ⟨g, cap, cur, rfl, by omega, hr⟩
theorem OwnR.mono_ (h : OwnR full w base v ls) {base' : Nat} (hb : base' ≤ base) : OwnR full w base' v ls := by
  obtain ⟨us, h1, h2, h3⟩ := h
  exact ⟨us, h1, ownsRow_mono h2 hb, fun j u l hu hl => ⟨(h3 j u l hu hl).1, (h3 j u l hu hl).2.mono_ hb⟩⟩
theorem OwnR.lt_ (h : OwnR full w base v ls) : ∀ k, v.ownBlock = some k → base ≤ k ∧ k < w.heap.size := by
  obtain ⟨us, h1, h2, h3⟩ := h
  exact h2.lt
theorem OwnR.form_ (h : OwnR full w base v ls) : Rv w w.heap.size v ls := by
  obtain ⟨us, h1, h2, h3⟩ := h
  rcases id h2.2 with ⟨rfl, h0⟩ | ⟨g, cap, cur, rfl, hg, hh, hn, hc, _, _⟩
  · obtain rfl : ls = [] := List.eq_nil_of_length_eq_zero (by omega)
    exact Rv.nil_ _ _
  · refine ⟨some ⟨g, 0, none⟩, cap, by rw [h1], by omega, hc, by simp, fun hp => ⟨g, 0, rfl, (Array.getElem?_eq_some_iff.1 hh).1, fun j l hl => ?_⟩⟩
    have hj : j < us.length := by rw [h1]; exact (List.getElem?_eq_some_iff.1 hl).1
    refine ⟨us[j], ?_, (h3 j _ l (List.getElem?_eq_getElem hj) hl).2.form_⟩
    rw [Nat.zero_add, h2.cellAt j (by omega), List.getElem?_eq_getElem hj]
/-- A list of rows and a row of bytes never share a block. -/
theorem rows_apart {us : List Value} {u : Value} {l : List Nat} (h : w.ownsRow base 22 1 v us.length us) (hu : OwnB w B u l) : u.ownBlock = none ∨ u.ownBlock ≠ v.ownBlock := by
  rcases h.2 with ⟨rfl, _⟩ | ⟨g, cap, cur, rfl, _, hh, _⟩
  · cases he : u.ownBlock with
    | none => exact .inl rfl
    | some k => exact .inr (fun e => by cases e)
  · rcases hu.2.2 with ⟨rfl, _⟩ | ⟨g', cap', cur', rfl, _, hh', _⟩
    · exact .inl rfl
    · refine .inr (fun e => ?_)
      have e' : g' = g := by
        have := Option.some.inj e
        exact this
      subst e'
      rw [hh] at hh'
      have := Option.some.inj hh'
      injection this with _ e2 _
      exact absurd e2 (by decide)
theorem OwnR.kept_ {w w' : World} {base : Nat} {v : Value} {ls : List (List Nat)} {full : Bool} (h : OwnR full w base v ls) {row : Option Nat} (hg : w.grownBy w' row) (hr : ∀ k, row = some k → k < base) : OwnR full w' base v ls := by
  have hne : ∀ {u : Value}, (∀ k, u.ownBlock = some k → base ≤ k) → u.ownBlock = none ∨ u.ownBlock ≠ row := by
    intro u hu
    cases hb : u.ownBlock with
    | none => exact .inl rfl
    | some k =>
      right
      intro e
      have h1 := hu k hb
      have h2 := hr k e.symm
      omega
  obtain ⟨us, h1, h2, h3⟩ := h
  exact ⟨us, h1, h2.kept hg (hne fun k hk => (h2.lt k hk).1), fun j u l hu hl => ⟨(h3 j u l hu hl).1, (h3 j u l hu hl).2.kept_ hg (hne fun k hk => ((h3 j u l hu hl).2.lt_ k hk).1)⟩⟩
end

/-- What one row more does. -/
theorem run_append_rows (w : World) (base : Nat) (v : Value) (ls : List (List Nat)) (full : Bool) (h : OwnR full w base v ls) (A : Option Addr) (n c : Nat) (x : List Nat) (hu : OwnB w base (.slice A n c) x) (hfull : full = true → c = x.length)
    (hsz : (ls.length + 1) * 24 ≤ 140737488355328) (hbase : base ≤ w.heap.size) :
    ∃ v' w', (Builtin.append_ #[64, 64] 64 #[v, .slice (some ⟨w.heap.size, 0, none⟩) 1 1]).run Try.prog (w.alloc (.cells #[.slice A n c] 22)) = .ok v' w' ∧ OwnR full w' base v' (ls ++ [x]) ∧ (w.alloc (.cells #[.slice A n c] 22)).grownBy w' v.ownBlock := by
  obtain ⟨i0, hi, hz0, hz1, hz2⟩ := info_parts info22
  obtain ⟨us, h1, h2, h3⟩ := h
  have hn : n = x.length := by
    obtain ⟨_, _, e, _⟩ := hu.form_
    injection e
  subst hn
  have hnews : ∀ j u, [Value.slice A x.length c][j]? = some u → (w.alloc (.cells #[.slice A x.length c] 22)).cell? ((⟨w.heap.size, 0, none⟩ : Addr).add j) = some u := by
    intro j u hj
    match j, hj with
    | 0, hj =>
      simp at hj
      subst hj
      rw [addr_zero, World.cell?_alloc_at _ _ _ _ rfl]; rfl
    | j + 1, hj => simp at hj
  obtain ⟨v', w', hr, ho, hg, _⟩ := run_append_own (P := Try.prog) (w.alloc (.cells #[.slice A x.length c] 22)) base 64 64 22 i0 (.slice none 0 0) 1 24 Try.underlying64 hi hz0 hz1 hz2 rfl (by decide) v us.length us (h2.alloc _) ⟨w.heap.size, 0, none⟩ 1 1 [.slice A x.length c] rfl hnews
    (by intro u hu; simp at hu; subst hu; rfl) (by simp only [maxLen]; omega) (by omega) (by simp; omega)
  have keep : ∀ {u : Value} {l : List Nat}, OwnB w base u l → OwnB w' base u l := fun hb => (hb.alloc_ _).kept_ hg (rows_apart h2 hb)
  refine ⟨v', w', hr, ⟨us ++ [.slice A x.length c], by simp [h1], by simpa using ho, fun j u l hju hjl => ?_⟩, hg⟩
  by_cases hj : j < us.length
  · rw [List.getElem?_append_left hj] at hju
    rw [List.getElem?_append_left (by rw [← h1]; exact hj)] at hjl
    obtain ⟨g1, g2⟩ := h3 j u l hju hjl
    exact ⟨g1, keep g2⟩
  · have hje : j = us.length := by
      have := (List.getElem?_eq_some_iff.1 hju).1
      simp at this
      omega
    subst hje
    rw [List.getElem?_append_right (Nat.le_refl _)] at hju
    rw [h1, List.getElem?_append_right (Nat.le_refl _)] at hjl
    simp at hju hjl
    subst hju hjl
    exact ⟨⟨A, c, rfl, hfull⟩, keep hu⟩

theorem wpList_append_rows (w : World) {ops : Array Oper} {rest : List Oper} {o : Oper} {a : Act} {Q : Exit → Act → World → Prop} (hgd : o.guard = none) (s t : Operand)
    (ho : o.op = .call { callee := .builtin .append, args := #[s, t], argTypes := #[64, 64] }) (hty : o.type = 64)
    (base : Nat) (v : Value) (hs : a.eval s = v) (ls : List (List Nat)) (full : Bool) (hown : OwnR full w base v ls) (A : Option Addr) (n c : Nat) (x : List Nat) (hx : a.eval t = .slice (some ⟨w.heap.size, 0, none⟩) 1 1) (hu : OwnB w base (.slice A n c) x) (hfull : full = true → c = x.length)
    (hsz : (ls.length + 1) * 24 ≤ 140737488355328) (hbase : base ≤ w.heap.size)
    (hK : ∀ v' w', OwnR full w' base v' (ls ++ [x]) → (w.alloc (.cells #[.slice A n c] 22)).grownBy w' v.ownBlock → wpList Try.prog ops Q rest (a.put o.dst v') w') :
    wpList Try.prog ops Q (o :: rest) a (w.alloc (.cells #[.slice A n c] 22)) :=
  wpList_plain hgd fun K hKK => by
    obtain ⟨v', w', hr, hA, hg⟩ := run_append_rows w base v ls full hown A n c x hu hfull hsz hbase
    unfold Oper.wp execOp
    simp only [ho, resolve, invoke, builtin, Sem.run_bind, Sem.run_pure, Result.andThen_ok, List.map_toArray, List.map_cons, List.map_nil, hs, hx, hr, hty]
    exact hKK _ _ (hK v' w' hA hg)
end Go.Proofs.Ytmcbjcbnckpfkaa
namespace Go.Proofs.Ytmcbjcbnckpfkaa
open Go.RowKit
set_option linter.unusedVariables false
/-- How many rows there are, and bytes of them, each of them up to a number. -/
def rowsBulk (l : List (List Nat)) (m : Nat) : Nat := l.length + (l.map fun x => min x.length m).sum
def bulkTo (l : List (List Nat)) (m k : Nat) : Nat := l.length + ((l.take k).map fun x => min x.length m).sum
theorem bulkTo_more {l : List (List Nat)} {m k : Nat} {x : List Nat} (h : l[k]? = some x) : bulkTo l m (k + 1) = bulkTo l m k + min x.length m := by
  unfold bulkTo
  rw [List.take_add_one, h]
  simp
  omega
theorem bulkTo_le (l : List (List Nat)) (m k : Nat) : bulkTo l m k ≤ rowsBulk l m := by
  have e : rowsBulk l m = bulkTo l m k + ((l.drop k).map fun x => min x.length m).sum := by
    unfold rowsBulk bulkTo
    conv => lhs; rw [← List.take_append_drop k l]
    rw [List.map_append, List.sum_append, List.take_append_drop]
    omega
  omega
theorem bulkTo_all (l : List (List Nat)) (m : Nat) : bulkTo l m l.length = rowsBulk l m := by unfold bulkTo rowsBulk; rw [List.take_length]
theorem cat_bulkN {m : Nat} : ∀ l : List (List Nat), (l.map fun x => min x.length m).sum < m → (l.flatten).length = (l.map fun x => min x.length m).sum
  | [], _ => rfl
  | x :: l, h => by
    rw [List.map_cons, List.sum_cons] at h ⊢
    rw [List.flatten_cons, List.length_append, cat_bulkN (m := m) l (by omega)]
    omega
set_option maxHeartbeats 2000000 in
set_option maxRecDepth 100000 in
theorem sizeR_any (v : Value) (B : Nat) (l : List (List Nat)) (w : World) (h : Rv w B v l) (hB : B ≤ w.heap.size) (hl : l.length ≤ 140737488355328) :
    Calls Try.prog 36 #[v, .int .i64 10000] w (fun e w' => e = .returned (.int .i64 (min (rowsBulk l 10001) 10001 : Nat)) ∧ w = w') := by
  have H0 := Lib.hid h
  obtain ⟨A, c, rfl, hc1, hc2, _, _⟩ := h
  clear hc1 hc2
  go_enter Try.func36, Try.ntmps36
  go_wp2
  go_loop [5, 6] (fun nn i => ∃ (k s : Nat), k ≤ l.length ∧ s ≤ l.length + 20002 ∧ i = .int .i64 (k : Nat) ∧ nn = .int .i64 (s : Nat) ∧ Hid (s = bulkTo l 10001 k)) (fun _ i => l.length - (intOf i).toNat)
  case atStart => exact ⟨0, l.length, by omega, by omega, rfl, rfl, by simp [Hid, bulkTo]⟩
  case round =>
    obtain ⟨k, s, hk, hs, rfl, rfl, HS⟩ := hrel
    by_cases hlt : k < l.length
    · have hki : (k : Int) < (l.length : Int) := by omega
      have hk0 : (0 : Int) ≤ (k : Int) := by omega
      have wk : IntKind.i64.wrap ((k : Int) + 1) = (k : Int) + 1 := by rw [IntKind.wrap_i64]; omega
      by_cases hn : s ≤ 10000
      · have hni : (s : Int) ≤ 10000 := by omega
        obtain ⟨b, off, A', c', x, rfl, hb, hq, hcell, hx⟩ := H0.out.at_ hlt
        obtain ⟨m, hm⟩ : ∃ m, min x.length 10001 = m := ⟨_, rfl⟩
        have hmi : (if (10001 : Int) < (x.length : Int) then (10001 : Int) else (x.length : Int)) = (m : Int) := by split <;> omega
        have hxl : x.length ≤ 9223372036854775807 := by obtain ⟨_, _, e, h1, h2, _⟩ := hx; simp only [maxLen] at h2; omega
        have HS2 : Hid (s + m = bulkTo l 10001 (k + 1)) := by unfold Hid; rw [bulkTo_more hq, ← HS.out, hm]
        have ws : IntKind.i64.wrap ((s : Int) + (m : Int)) = (s : Int) + (m : Int) := by rw [IntKind.wrap_i64]; omega
        have hm2 : m ≤ 10001 := by omega
        clear hq hm HS hx
        go_wp2
        go_round
        case rel => exact ⟨k + 1, s + m, by omega, by omega, by go_num, by go_num, HS2⟩
        case measure => simp [intOf]; omega
      · have hni : ¬ (s : Int) ≤ 10000 := by omega
        have hg : min (rowsBulk l 10001) 10001 = 10001 := by
          have h1 := bulkTo_le l 10001 k
          rw [← HS.out] at h1
          omega
        have HG := Lib.hid hg
        have hmi : (if (10001 : Int) < (s : Int) then (10001 : Int) else (s : Int)) = (10001 : Int) := by split <;> omega
        clear HS hg
        go_wp2
        go_ret
        exact ⟨congrArg (fun x : Nat => Ending.returned (Value.int _ (x : Int))) HG.out.symm, rfl⟩
    · have hki : ¬ (k : Int) < (l.length : Int) := by omega
      have hkk : k = l.length := by omega
      have hg : rowsBulk l 10001 = s := by
        have h1 := HS.out
        rw [hkk, bulkTo_all] at h1
        exact h1.symm
      obtain ⟨m, hm⟩ : ∃ m, min s 10001 = m := ⟨_, rfl⟩
      have hmi : (if (10001 : Int) < (s : Int) then (10001 : Int) else (s : Int)) = (m : Int) := by split <;> omega
      have HG : Hid (min (rowsBulk l 10001) 10001 = m) := by unfold Hid; rw [hg, hm]
      clear HS hg hm
      go_wp2
      go_ret
      exact ⟨congrArg (fun x : Nat => Ending.returned (Value.int _ (x : Int))) HG.out.symm, rfl⟩
end Go.Proofs.Ytmcbjcbnckpfkaa
