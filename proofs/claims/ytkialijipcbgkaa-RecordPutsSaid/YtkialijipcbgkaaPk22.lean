/-
  Heap: A slice of the call's own that is known to its room's end: its block, and copy into it.
  RowsG: A list of rows of bytes that a call makes by append, in memory of its own: rows, each in memory of the call's own too.
  ConB: slices.Concat of rows of bytes: they, one behind the other, in memory of the call's own.
  ConstL: The bytes of a constant.
-/
import Derived.Test.YtkialijipcbgkaaPk01
import Derived.Laws.CopyOwn
import Derived.Test.YtkialijipcbgkaaPk21
import Derived.Test.YtkialijipcbgkaaPk07
import Derived.Test.YtkialijipcbgkaaPk03
import Derived.Lib.SlBytesConst
namespace Go.Proofs.Ytkialijipcbgkaa
open Go.RowKit
set_option linter.unusedVariables false

theorem OwnB.of_heap {w : World} {base g : Nat} {l : List Nat} (hb : base ≤ g) (hl : ∀ x ∈ l, x < 256) (hm : l.length ≤ maxLen) (h : w.heap[g]? = some (.cells (l.map u8).toArray 5 (0, 0))) :
    OwnB w base (.slice (some ⟨g, 0, none⟩) l.length l.length) l :=
  ⟨hl, by simp, .inr ⟨g, l.length, (l.map u8).toArray, rfl, hb, h, Nat.le_refl _, hm, by simp, by rw [Nat.mul_one]; exact List.take_of_length_le (by simp)⟩⟩
theorem OwnB.heap_ {w : World} {base g : Nat} {l : List Nat} (h : OwnB w base (.slice (some ⟨g, 0, none⟩) l.length l.length) l) : base ≤ g ∧ w.heap[g]? = some (.cells (l.map u8).toArray 5 (0, 0)) := by
  rcases h.2.2 with ⟨e, _⟩ | ⟨g', cap, cur, e, hb, hh, _, _, hs, ht⟩
  · cases e
  · injection e with e1 e2 e3
    injection e1 with e1
    injection e1 with e1
    subst e1 e3
    refine ⟨hb, ?_⟩
    rw [hh]
    congr 2
    rw [List.take_of_length_le (by rw [Array.length_toList]; omega)] at ht
    rw [← ht]
theorem zeros_heap {w : World} {base g n : Nat} (h : w.ownsRow base 5 1 (.slice (some ⟨g, 0, none⟩) n n) n (madeCells (Value.int .u8 0).cells (n * 1)).toList) :
    w.heap[g]? = some (.cells (List.replicate n (Value.int .u8 0)).toArray 5 (0, 0)) := by
  have e : (madeCells (Value.int .u8 0).cells (n * 1)).toList = (List.replicate n 0).map u8 := by
    rw [Nat.mul_one]
    show (madeCells #[Value.int .u8 0] n).toList = _
    rw [toList_madeCells_one, List.map_replicate]; rfl
  rw [e] at h
  have hl : (List.replicate n 0).length = n := List.length_replicate
  have hO : OwnB w base (.slice (some ⟨g, 0, none⟩) (List.replicate n 0).length (List.replicate n 0).length) (List.replicate n 0) := by
    refine ⟨fun x hx => by rw [List.eq_of_mem_replicate hx]; decide, ?_⟩
    rw [hl]; exact h
  have h2 := hO.heap_.2
  rw [List.map_replicate] at h2
  exact h2

theorem size5 : (Try.prog.info? 5).map (·.size) = some 1 := by kernel_rfl
/-- copy into a slice of the call's own, from place k on. -/
theorem copy_own {w : World} {base g : Nat} {z m : List Nat} {B k dl dc : Nat} {x : Value} (h : OwnB w base (.slice (some ⟨g, 0, none⟩) z.length z.length) z) (hm : z.length ≤ maxLen) (hx : Bv w B x m) (hfit : k + m.length ≤ z.length) (hd : m.length ≤ dl) :
    ∃ w2, (Builtin.copy_ #[28, 28] 3 #[.slice (some ⟨g, k, none⟩) dl dc, x]).run Try.prog w = .ok (.int .i64 (m.length : Nat)) w2 ∧
      OwnB w2 base (.slice (some ⟨g, 0, none⟩) z.length z.length) (z.take k ++ m ++ z.drop (k + m.length)) ∧ w.grownBy w2 (some g) := by
  obtain ⟨A, c, rfl, _, _, _, hb⟩ := hx
  obtain ⟨hbg, hh⟩ := h.heap_
  by_cases h0 : 0 < m.length
  · obtain ⟨b, off, rfl, _, hc⟩ := hb.2 h0
    have hsrc : ∀ j v, (m.map u8)[j]? = some v → w.cell? ((⟨b, off, none⟩ : Addr).add j) = some v := by
      intro j v hv
      rw [List.getElem?_map] at hv
      cases hj : m[j]? with
      | none => rw [hj] at hv; cases hv
      | some y =>
        rw [hj] at hv
        have ea : (⟨b, off, none⟩ : Addr).add j = ⟨b, off + j, none⟩ := by unfold Addr.add; split <;> simp_all
        rw [ea, hc j y hj]
        simpa [u8] using hv
    have hrun := run_copy_row (P := Try.prog) w 28 28 3 5 g k dl dc ⟨b, off, none⟩ m.length c _ 5 (m.map u8) Try.underlying28 size5 hh
      (by rw [List.length_map]; exact (Nat.min_eq_left hd).symm) hsrc (by simpa using hfit) (by intro u hu; obtain ⟨_, _, rfl⟩ := List.mem_map.1 hu; rfl)
    have hlen : (z.take k ++ m ++ z.drop (k + m.length)).length = z.length := by simp; omega
    have h2 := setRow_heap w g _ ((z.take k ++ m ++ z.drop (k + m.length)).map u8).toArray _ _ hh
    have e : ((z.map u8).toArray.toList.take k ++ m.map u8 ++ (z.map u8).toArray.toList.drop (k + (m.map u8).length)).toArray = ((z.take k ++ m ++ z.drop (k + m.length)).map u8).toArray := by
      simp [List.map_take, List.map_drop]
    rw [e] at hrun
    refine ⟨w.setRow g ((z.take k ++ m ++ z.drop (k + m.length)).map u8).toArray, ?_, ?_, ⟨rfl, rfl, rfl, by simp, fun i _ hi => setRow_other w g i _ (fun e => hi (by rw [e]))⟩⟩
    · rw [hrun, List.length_map]; rfl
    have h3 := OwnB.of_heap (l := z.take k ++ m ++ z.drop (k + m.length)) hbg (by
      intro y hy
      rcases List.mem_append.1 hy with hy | hy
      · rcases List.mem_append.1 hy with hy | hy
        · exact h.1 y (List.mem_of_mem_take hy)
        · exact hb.1 y hy
      · exact h.1 y (List.mem_of_mem_drop hy)) (by rw [hlen]; exact hm) h2
    rw [hlen] at h3
    exact h3
  · obtain rfl : m = [] := List.eq_nil_of_length_eq_zero (by omega)
    have hrun := run_copy_none (P := Try.prog) w 28 28 3 5 (some ⟨g, k, none⟩) A dl dc 0 c Try.underlying28 size5 (by simp)
    refine ⟨w, by simpa [goInt] using hrun, ?_, ⟨rfl, rfl, rfl, Nat.le_refl _, fun _ _ _ => rfl⟩⟩
    simpa using h
end Go.Proofs.Ytkialijipcbgkaa
namespace Go.Proofs.Ytkialijipcbgkaa
open Go.RowKit
set_option linter.unusedVariables false

theorem info22 : (Try.prog.info? 28).map (fun i => (i.zero, i.size, i.bytes)) = some (some (.slice none 0 0), 1, 24) := by kernel_rfl

/-- The value v is a slice of rows that hold these bytes, in blocks below B. -/
def Rv (w : World) (B : Nat) (v : Value) (ls : List (List Nat)) : Prop :=
  ∃ A c, v = .slice A ls.length c ∧ ls.length ≤ c ∧ c ≤ maxLen ∧ (A = none → c = 0) ∧ (0 < ls.length → ∃ b off, A = some ⟨b, off, none⟩ ∧ b < B ∧ ∀ (j : Nat) (l : List Nat), ls[j]? = some l → ∃ u, w.cell? ⟨b, off + j, none⟩ = some u ∧ Bv w B u l)
/-- The call's own slice v, in a block from base on, of rows that hold these bytes, each in a block of the call's own; full: without spare room. -/
def OwnR (full : Bool) (w : World) (base : Nat) (v : Value) (ls : List (List Nat)) : Prop :=
  ∃ us : List Value, us.length = ls.length ∧ w.ownsRow base 28 1 v us.length us ∧ ∀ (j : Nat) (u : Value) (l : List Nat), us[j]? = some u → ls[j]? = some l → (∃ A c, u = .slice A l.length c ∧ (full = true → c = l.length)) ∧ OwnB w base u l

theorem Rv.at_ {w : World} {B n c : Nat} {A : Option Addr} {ls : List (List Nat)} (h : Rv w B (.slice A n c) ls) {k : Nat} (hk : k < ls.length) :
    ∃ b off A' c' x, A = some ⟨b, off, none⟩ ∧ b < B ∧ ls[k]? = some x ∧ w.cell? ⟨b, off + k, none⟩ = some (.slice A' x.length c') ∧ Bv w B (.slice A' x.length c') x := by
  obtain ⟨A', c', e, h1, h2, h3, h4⟩ := h
  injection e with e1 e2 e3
  subst e1
  obtain ⟨b, off, rfl, hb, hc⟩ := h4 (by omega)
  obtain ⟨u, hu, hv⟩ := hc k _ (List.getElem?_eq_getElem hk)
  obtain ⟨A2, c2, rfl, _⟩ := id hv
  exact ⟨b, off, A2, c2, _, rfl, hb, List.getElem?_eq_getElem hk, hu, hv⟩
section
variable {w w' : World} {base B : Nat} {v : Value} {ls : List (List Nat)} {full : Bool}
theorem Rv.below_ (h : Rv w B v ls) {B' : Nat} (hb : Below B' w w') (hB : B ≤ B') : Rv w' B v ls := by
  obtain ⟨A, c, e, h1, h2, h3, h4⟩ := h
  refine ⟨A, c, e, h1, h2, h3, fun hp => ?_⟩
  obtain ⟨b, off, e, hlt, hc⟩ := h4 hp
  refine ⟨b, off, e, hlt, fun j l hj => ?_⟩
  obtain ⟨u, hu, hv⟩ := hc j l hj
  exact ⟨u, (hb.cell (p := ⟨b, off + j, none⟩) (by show b < B'; omega)).trans hu, hv.below_ hb hB⟩
theorem Rv.mono_ (h : Rv w B v ls) {B' : Nat} (hB : B ≤ B') : Rv w B' v ls := by
  obtain ⟨A, c, e, h1, h2, h3, h4⟩ := h
  refine ⟨A, c, e, h1, h2, h3, fun hp => ?_⟩
  obtain ⟨b, off, e, hlt, hc⟩ := h4 hp
  refine ⟨b, off, e, by omega, fun j l hj => ?_⟩
  obtain ⟨u, hu, hv⟩ := hc j l hj
  exact ⟨u, hu, hv.mono_ hB⟩
theorem Rv.nil_ (w : World) (B : Nat) : Rv w B (.slice none 0 0) [] := ⟨none, 0, rfl, by simp, by simp [maxLen], by simp, by simp⟩
theorem Rv.take_ {A : Option Addr} {n c : Nat} (h : Rv w B (.slice A n c) ls) {k : Nat} (hk : k ≤ ls.length) : Rv w B (.slice A k c) (ls.take k) := by
  obtain ⟨A', c', e, h1, h2, h3, h4⟩ := h
  injection e with e1 e2 e3
  subst e1 e3
  have hl : (ls.take k).length = k := by rw [List.length_take]; omega
  refine ⟨A, c, by rw [hl], by rw [hl]; omega, h2, h3, fun hp => ?_⟩
  obtain ⟨b, off, e, hlt, hc⟩ := h4 (by rw [hl] at hp; omega)
  refine ⟨b, off, e, hlt, fun j l hj => ?_⟩
  rw [List.getElem?_take] at hj
  split at hj
  · exact hc j l hj
  · cases hj

theorem OwnR.nil_ (full : Bool) (w : World) (base : Nat) : OwnR full w base (.slice none 0 0) [] := ⟨[], rfl, World.ownsRow_nil w base _ 1, fun j u l hu => by simp at hu⟩
theorem ownsRow_below {e : TypeId} {size n : Nat} {xs : List Value} (h : w.ownsRow base e size v n xs) {B : Nat} (hb : Below B w w') (hB : w.heap.size ≤ B) : w'.ownsRow base e size v n xs := by
  refine ⟨h.1, ?_⟩
  rcases h.2 with hn | ⟨g, cap, cur, rfl, hg, hh, hr⟩
  · exact .inl hn
  · refine .inr ⟨g, cap, cur, rfl, hg, ?_, hr⟩
    have hlt : g < w.heap.size := (Array.getElem?_eq_some_iff.1 hh).1
    rw [hb.block g (by omega)]
    exact hh
theorem OwnR.below_ (h : OwnR full w base v ls) {B : Nat} (hb : Below B w w') (hB : w.heap.size ≤ B) : OwnR full w' base v ls := by
  obtain ⟨us, h1, h2, h3⟩ := h
  exact ⟨us, h1, ownsRow_below h2 hb hB, fun j u l hu hl => ⟨(h3 j u l hu hl).1, (h3 j u l hu hl).2.below_ hb hB⟩⟩
theorem ownsRow_mono {e : TypeId} {size n : Nat} {xs : List Value} (h : w.ownsRow base e size v n xs) {base' : Nat} (hb : base' ≤ base) : w.ownsRow base' e size v n xs := by
  refine ⟨h.1, ?_⟩
  rcases h.2 with hn | ⟨g, cap, cur, rfl, hg, hr⟩
  · exact .inl hn
  · exact .inr ⟨g, cap, cur, rfl, by omega, hr⟩
theorem OwnR.mono_ (h : OwnR full w base v ls) {base' : Nat} (hb : base' ≤ base) : OwnR full w base' v ls := by
  obtain ⟨us, h1, h2, h3⟩ := h
  exact ⟨us, h1, ownsRow_mono h2 hb, fun j u l hu hl => ⟨(h3 j u l hu hl).1, (h3 j u l hu hl).2.mono_ hb⟩⟩
theorem OwnR.lt_ (h : OwnR full w base v ls) : ∀ k, v.ownBlock = some k → base ≤ k ∧ k < w.heap.size := by
  obtain ⟨us, h1, h2, h3⟩ := h
  exact h2.lt
theorem OwnR.form_ (h : OwnR full w base v ls) : Rv w w.heap.size v ls := by
  obtain ⟨us, h1, h2, h3⟩ := h
  rcases id h2.2 with ⟨rfl, h0⟩ | ⟨g, cap, cur, rfl, hg, hh, hn, hc, _, _⟩
  · obtain rfl : ls = [] := List.eq_nil_of_length_eq_zero (by omega)
    exact Rv.nil_ _ _
  · refine ⟨some ⟨g, 0, none⟩, cap, by rw [h1], by omega, hc, by simp, fun hp => ⟨g, 0, rfl, (Array.getElem?_eq_some_iff.1 hh).1, fun j l hl => ?_⟩⟩
    have hj : j < us.length := by rw [h1]; exact (List.getElem?_eq_some_iff.1 hl).1
    refine ⟨us[j], ?_, (h3 j _ l (List.getElem?_eq_getElem hj) hl).2.form_⟩
    rw [Nat.zero_add, h2.cellAt j (by omega), List.getElem?_eq_getElem hj]
/-- A list of rows and a row of bytes never share a block. -/
theorem rows_apart {us : List Value} {u : Value} {l : List Nat} (h : w.ownsRow base 28 1 v us.length us) (hu : OwnB w B u l) : u.ownBlock = none ∨ u.ownBlock ≠ v.ownBlock := by
  rcases h.2 with ⟨rfl, _⟩ | ⟨g, cap, cur, rfl, _, hh, _⟩
  · cases he : u.ownBlock with
    | none => exact .inl rfl
    | some k => exact .inr (fun e => by cases e)
  · rcases hu.2.2 with ⟨rfl, _⟩ | ⟨g', cap', cur', rfl, _, hh', _⟩
    · exact .inl rfl
    · refine .inr (fun e => ?_)
      have e' : g' = g := by
        have := Option.some.inj e
        exact this
      subst e'
      rw [hh] at hh'
      have := Option.some.inj hh'
      injection this with _ e2 _
      exact absurd e2 (by decide)
theorem OwnR.kept_ {w w' : World} {base : Nat} {v : Value} {ls : List (List Nat)} {full : Bool} (h : OwnR full w base v ls) {row : Option Nat} (hg : w.grownBy w' row) (hr : ∀ k, row = some k → k < base) : OwnR full w' base v ls := by
  have hne : ∀ {u : Value}, (∀ k, u.ownBlock = some k → base ≤ k) → u.ownBlock = none ∨ u.ownBlock ≠ row := by
    intro u hu
    cases hb : u.ownBlock with
    | none => exact .inl rfl
    | some k =>
      right
      intro e
      have h1 := hu k hb
      have h2 := hr k e.symm
      omega
  obtain ⟨us, h1, h2, h3⟩ := h
  exact ⟨us, h1, h2.kept hg (hne fun k hk => (h2.lt k hk).1), fun j u l hu hl => ⟨(h3 j u l hu hl).1, (h3 j u l hu hl).2.kept_ hg (hne fun k hk => ((h3 j u l hu hl).2.lt_ k hk).1)⟩⟩
end

/-- What one row more does. -/
theorem run_append_rows (w : World) (base : Nat) (v : Value) (ls : List (List Nat)) (full : Bool) (h : OwnR full w base v ls) (A : Option Addr) (n c : Nat) (x : List Nat) (hu : OwnB w base (.slice A n c) x) (hfull : full = true → c = x.length)
    (hsz : (ls.length + 1) * 24 ≤ 140737488355328) (hbase : base ≤ w.heap.size) :
    ∃ v' w', (Builtin.append_ #[79, 79] 79 #[v, .slice (some ⟨w.heap.size, 0, none⟩) 1 1]).run Try.prog (w.alloc (.cells #[.slice A n c] 28)) = .ok v' w' ∧ OwnR full w' base v' (ls ++ [x]) ∧ (w.alloc (.cells #[.slice A n c] 28)).grownBy w' v.ownBlock := by
  obtain ⟨i0, hi, hz0, hz1, hz2⟩ := info_parts info22
  obtain ⟨us, h1, h2, h3⟩ := h
  have hn : n = x.length := by
    obtain ⟨_, _, e, _⟩ := hu.form_
    injection e
  subst hn
  have hnews : ∀ j u, [Value.slice A x.length c][j]? = some u → (w.alloc (.cells #[.slice A x.length c] 28)).cell? ((⟨w.heap.size, 0, none⟩ : Addr).add j) = some u := by
    intro j u hj
    match j, hj with
    | 0, hj =>
      simp at hj
      subst hj
      rw [addr_zero, World.cell?_alloc_at _ _ _ _ rfl]; rfl
    | j + 1, hj => simp at hj
  obtain ⟨v', w', hr, ho, hg, _⟩ := run_append_own (P := Try.prog) (w.alloc (.cells #[.slice A x.length c] 28)) base 79 79 28 i0 (.slice none 0 0) 1 24 Try.underlying79 hi hz0 hz1 hz2 rfl (by decide) v us.length us (h2.alloc _) ⟨w.heap.size, 0, none⟩ 1 1 [.slice A x.length c] rfl hnews
    (by intro u hu; simp at hu; subst hu; rfl) (by simp only [maxLen]; omega) (by omega) (by simp; omega)
  have keep : ∀ {u : Value} {l : List Nat}, OwnB w base u l → OwnB w' base u l := fun hb => (hb.alloc_ _).kept_ hg (rows_apart h2 hb)
  refine ⟨v', w', hr, ⟨us ++ [.slice A x.length c], by simp [h1], by simpa using ho, fun j u l hju hjl => ?_⟩, hg⟩
  by_cases hj : j < us.length
  · rw [List.getElem?_append_left hj] at hju
    rw [List.getElem?_append_left (by rw [← h1]; exact hj)] at hjl
    obtain ⟨g1, g2⟩ := h3 j u l hju hjl
    exact ⟨g1, keep g2⟩
  · have hje : j = us.length := by
      have := (List.getElem?_eq_some_iff.1 hju).1
      simp at this
      omega
    subst hje
    rw [List.getElem?_append_right (Nat.le_refl _)] at hju
    rw [h1, List.getElem?_append_right (Nat.le_refl _)] at hjl
    simp at hju hjl
    subst hju hjl
    exact ⟨⟨A, c, rfl, hfull⟩, keep hu⟩

theorem wpList_append_rows (w : World) {ops : Array Oper} {rest : List Oper} {o : Oper} {a : Act} {Q : Exit → Act → World → Prop} (hgd : o.guard = none) (s t : Operand)
    (ho : o.op = .call { callee := .builtin .append, args := #[s, t], argTypes := #[79, 79] }) (hty : o.type = 79)
    (base : Nat) (v : Value) (hs : a.eval s = v) (ls : List (List Nat)) (full : Bool) (hown : OwnR full w base v ls) (A : Option Addr) (n c : Nat) (x : List Nat) (hx : a.eval t = .slice (some ⟨w.heap.size, 0, none⟩) 1 1) (hu : OwnB w base (.slice A n c) x) (hfull : full = true → c = x.length)
    (hsz : (ls.length + 1) * 24 ≤ 140737488355328) (hbase : base ≤ w.heap.size)
    (hK : ∀ v' w', OwnR full w' base v' (ls ++ [x]) → (w.alloc (.cells #[.slice A n c] 28)).grownBy w' v.ownBlock → wpList Try.prog ops Q rest (a.put o.dst v') w') :
    wpList Try.prog ops Q (o :: rest) a (w.alloc (.cells #[.slice A n c] 28)) :=
  wpList_plain hgd fun K hKK => by
    obtain ⟨v', w', hr, hA, hg⟩ := run_append_rows w base v ls full hown A n c x hu hfull hsz hbase
    unfold Oper.wp execOp
    simp only [ho, resolve, invoke, builtin, Sem.run_bind, Sem.run_pure, Result.andThen_ok, List.map_toArray, List.map_cons, List.map_nil, hs, hx, hr, hty]
    exact hKK _ _ (hK v' w' hA hg)
end Go.Proofs.Ytkialijipcbgkaa
namespace Go.Proofs.Ytkialijipcbgkaa
open Go.RowKit
set_option linter.unusedVariables false
set_option maxHeartbeats 2000000 in
set_option maxRecDepth 100000 in
theorem pconcat_any (v : Value) (ls : List (List Nat)) (B : Nat) (w : World) (h : Rv w B v ls) (hB : B ≤ w.heap.size) (hs : (cat ls).length ≤ 140737488355328) :
    Calls Try.prog 32 #[v] w (fun e w' => ∃ A c, e = .returned (.slice A (cat ls).length c) ∧ OwnL yK w' w.heap.size (.slice A (cat ls).length c) (cat ls) ∧ Below w.heap.size w w') := by
  have H0 := Lib.hid h
  have HBB := Lib.hid hB
  have HS := Lib.hid hs
  obtain ⟨A, c, rfl, g1, g2, _, _⟩ := h
  unfold maxLen at g2
  have HLE := Lib.hid (flat_le ls)
  clear hB hs
  go_enter Try.func32, Try.ntmps32
  go_wp2
  go_loopw [3, 11] (fun z i wr => ∃ (k s : Nat), k ≤ ls.length ∧ i = .int .i64 k ∧ z = .int .i64 s ∧ Hid (s = (cat (ls.take k)).length) ∧ Hid (Below w.heap.size w wr)) (fun _ i _ => ls.length - (intOf i).toNat)
  case atStart => exact ⟨0, 0, by omega, rfl, rfl, rfl, Below.refl _ _⟩
  case round =>
    obtain ⟨k, s, hk, rfl, rfl, HZ, HB⟩ := hrel
    by_cases hlt : k < ls.length
    · have hki : (k : Int) < (ls.length : Int) := by omega
      have wk : IntKind.i64.wrap ((k : Int) + 1) = (k : Int) + 1 := by rw [IntKind.wrap_i64]; omega
      obtain ⟨b1, o1, A1, c1, x, rfl, hb1, hx, hc1, hv1⟩ := (H0.out.below_ HB.out HBB.out).at_ hlt
      have HZ2 : Hid (s + x.length = (cat (ls.take (k + 1))).length) := by unfold Hid; rw [flat_succ hx, List.length_append, ← HZ.out]
      obtain ⟨n, hn⟩ : ∃ n, x.length = n := ⟨_, rfl⟩
      rw [hn] at HZ2 hc1
      have hsn : s + n ≤ 140737488355328 := by have := HZ2.out; have := HLE.out (k + 1); have := HS.out; omega
      have wa : IntKind.i64.wrap ((s : Int) + (n : Int)) = (s : Int) + (n : Int) := by rw [IntKind.wrap_i64]; omega
      have hs0 : ¬ (s : Int) + (n : Int) < 0 := by omega
      clear hx hb1 hv1 hn HZ
      go_wp2
      go_roundw
      case rel => exact ⟨k + 1, s + n, by omega, by go_num, by go_num, HZ2.out, HB.out⟩
      case measure => simp [intOf]; omega
    · have hki : ¬ (k : Int) < (ls.length : Int) := by omega
      have hs2 : s ≤ 140737488355328 := by have := HZ.out; have := HLE.out k; have := HS.out; omega
      have HG := Lib.hid (pgrow_any s wr hs2)
      clear HZ hs2
      go_wp2_with fail
      ((with_reducible refine HG.out.mono ?_); rintro e' w1 ⟨A1, c1, rfl, ho1, hb1⟩)
      have HO1 : Hid (OwnL yK w1 w.heap.size (.slice A1 0 c1) []) := ho1.mono_ HB.out.size
      have HB1 : Hid (Below w.heap.size w w1) := HB.out.trans (hb1.mono HB.out.size)
      clear ho1 hb1 HG HB hk hlt
      go_wp2
      go_loopw [6, 27] (fun z i wr => ∃ (k : Nat) (A2 : Option Addr) (c2 : Nat), k ≤ ls.length ∧ i = .int .i64 k ∧ z = .slice A2 (cat (ls.take k)).length c2 ∧ Hid (OwnL yK wr w.heap.size (.slice A2 (cat (ls.take k)).length c2) (cat (ls.take k))) ∧ Hid (Below w.heap.size w wr)) (fun _ i _ => ls.length - (intOf i).toNat)
      case atStart => exact ⟨0, A1, c1, by omega, rfl, rfl, HO1.out, HB1.out⟩
      case round =>
        obtain ⟨k, A2, c2, hk, rfl, rfl, HO, HB⟩ := hrel
        by_cases hlt : k < ls.length
        · have hki : (k : Int) < (ls.length : Int) := by omega
          have wk : IntKind.i64.wrap ((k : Int) + 1) = (k : Int) + 1 := by rw [IntKind.wrap_i64]; omega
          obtain ⟨b3, o3, A3, c3, x, rfl, hb3, hx, hc3, hv3⟩ := (H0.out.below_ HB.out HBB.out).at_ hlt
          have HV := Lib.hid hv3
          have HF : Hid (cat (ls.take (k + 1)) = cat (ls.take k) ++ x) := flat_succ hx
          have HN : Hid ((cat (ls.take k)).length + x.length ≤ 140737488355328) := by
            have h1 := HLE.out (k + 1)
            have h2 := HS.out
            rw [HF.out, List.length_append] at h1
            unfold Hid; omega
          obtain ⟨L, hL⟩ : ∃ L, cat (ls.take k) = L := ⟨_, rfl⟩
          rw [hL] at HF HN HO
          rw [hL]
          clear hx hb3 hv3 hL HO1 HB1
          go_wp2_with (at_builtin; go_must (refine wpList_append_l _ yK rfl _ _ rfl w.heap.size _ rfl L HO.out _ rfl _ x HV.out.lv_ (by rw [show yK.bytes = 1 from rfl, Nat.mul_one]; exact HN.out) (by have := HN.out; simp only [maxLen]; omega) HB.out.size ?_; intro A4 c4 w4 hA hG))
          have hb4 : Below w.heap.size w w4 := HB.out.grown hG (by exact HB.out.size) (fun k hk => (HO.out.lt_ k hk).1)
          go_roundw
          case rel => exact ⟨k + 1, A4, c4, by omega, by go_num, by rw [HF.out, List.length_append], by rw [HF.out]; exact hA, hb4⟩
          case measure => simp [intOf]; omega
        · have hki : ¬ (k : Int) < (ls.length : Int) := by omega
          have hkk : k = ls.length := by omega
          have HT : Hid (cat (ls.take k) = cat ls) := by unfold Hid; rw [hkk, List.take_length]
          rw [HT.out] at HO
          rw [HT.out]
          clear hkk
          go_wp2
          go_ret
          exact ⟨_, _, rfl, HO.out, HB.out⟩
end Go.Proofs.Ytkialijipcbgkaa
namespace Go.Proofs.Ytkialijipcbgkaa
open Go.RowKit
set_option linter.unusedVariables false
/-- The bytes of a constant. -/
theorem const_lv (w : World) (l : List Nat) (hl : ∀ x ∈ l, x < 256) (hm : l.length ≤ maxLen) (cs : Array Value) (hcs : cs = (yK.flat l).toArray) (n : Nat) (hn : n = l.length) (t : TypeId) (f : Nat × Nat) :
    Lv yK (w.alloc (.cells cs t f)) (w.heap.size + 1) (.slice (some ⟨w.heap.size, 0, none⟩) n n) l := by
  subst hn hcs
  refine ⟨_, _, rfl, Nat.le_refl _, hm, by simp, hl, fun _ => ⟨w.heap.size, 0, rfl, by omega, fun j u hj => ?_⟩⟩
  rw [Nat.zero_add, World.cell?_alloc_mark, List.getElem?_toArray]
  exact hj
end Go.Proofs.Ytkialijipcbgkaa
