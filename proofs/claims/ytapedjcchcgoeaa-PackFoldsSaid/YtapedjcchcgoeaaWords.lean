/-
  The words for memory once more, for slices of numbers.
-/
import Derived.Test.YtapedjcchcgoeaaApp
namespace Go.Proofs.Ytapedjcchcgoeaa
open Go.RowKit
set_option linter.unusedVariables false

/-- The slice with address A and length l.length holds the bytes l, in a block below B. -/
def Wts (w : World) (B : Nat) (A : Option Addr) (l : List Nat) : Prop :=
  (∀ x ∈ l, Mt.B64 x) ∧ (0 < l.length → ∃ b off, A = some ⟨b, off, none⟩ ∧ b < B ∧ ∀ j c, l[j]? = some c → w.cell? ⟨b, off + j, none⟩ = some (.int .u64 (c : Nat)))

section
variable {w w' : World} {B B' : Nat} {A : Option Addr} {l : List Nat}
theorem Wts.nil_ (w : World) (B : Nat) (A : Option Addr) : Wts w B A [] := ⟨by simp, by simp⟩
theorem Wts.at_ (h : Wts w B A l) {k : Nat} (hk : k < l.length) :
    ∃ b off c, A = some ⟨b, off, none⟩ ∧ b < B ∧ Mt.B64 c ∧ l.drop k = c :: l.drop (k + 1) ∧ w.cell? ⟨b, off + k, none⟩ = some (.int .u64 (c : Nat)) := by
  obtain ⟨b, off, e, hb, hc⟩ := h.2 (by omega)
  exact ⟨b, off, l[k], e, hb, h.1 _ (List.getElem_mem hk), List.drop_eq_getElem_cons hk, hc k _ (List.getElem?_eq_getElem hk)⟩
theorem Wts.below (h : Wts w B A l) (hb : Below B' w w') (hB : B ≤ B') : Wts w' B A l :=
  ⟨h.1, fun hn => by
    obtain ⟨b, off, e, hl, hc⟩ := h.2 hn
    exact ⟨b, off, e, hl, fun j c hj => (hb.cell (p := ⟨b, off + j, none⟩) (by show b < B'; omega)).trans (hc j c hj)⟩⟩
theorem Wts.mono (h : Wts w B A l) (hB : B ≤ B') : Wts w B' A l :=
  ⟨h.1, fun hn => by
    obtain ⟨b, off, e, hl, hc⟩ := h.2 hn
    exact ⟨b, off, e, by omega, hc⟩⟩
end

def u64v (x : Nat) : Value := .int .u64 (x : Nat)

/-- The call's own slice v, in a block from base on, holds the bytes l. -/
def OwnW (w : World) (base : Nat) (v : Value) (l : List Nat) : Prop := (∀ x ∈ l, Mt.B64 x) ∧ w.ownsRow base 22 1 v l.length (l.map u64v)

/-- The value v is a slice that holds the bytes l, in a block below B. -/
def Wv (w : World) (B : Nat) (v : Value) (l : List Nat) : Prop := ∃ A c, v = .slice A l.length c ∧ l.length ≤ c ∧ c ≤ maxLen ∧ (A = none → c = 0) ∧ Wts w B A l

theorem info22 : (Try.prog.info? 22).map (fun i => (i.zero, i.size, i.bytes)) = some (some (.int .u64 0), 1, 8) := by kernel_rfl

section
variable {w w' : World} {base B : Nat} {v : Value} {l : List Nat}
theorem OwnW.nil_ (w : World) (base : Nat) : OwnW w base (.slice none 0 0) [] := ⟨by simp, World.ownsRow_nil w base _ 1⟩
theorem OwnW.lt_ (h : OwnW w base v l) : ∀ k, v.ownBlock = some k → base ≤ k ∧ k < w.heap.size := h.2.lt
theorem OwnW.form_ (h : OwnW w base v l) : Wv w w.heap.size v l := by
  obtain ⟨hb, hl, ⟨rfl, h0⟩ | ⟨g, cap, cur, rfl, hg, hh, hn, hc, hs, ht⟩⟩ := h
  · obtain rfl : l = [] := List.eq_nil_of_length_eq_zero h0
    exact ⟨none, 0, rfl, by simp, by simp [maxLen], by simp, Wts.nil_ _ _ _⟩
  · refine ⟨some ⟨g, 0, none⟩, cap, rfl, hn, hc, by simp, hb, fun _ => ⟨g, 0, rfl, ?_, fun j c hj => ?_⟩⟩
    · rcases Nat.lt_or_ge g w.heap.size with h1 | h1
      · exact h1
      · rw [Array.getElem?_eq_none h1] at hh; cases hh
    · rw [Nat.zero_add, cell_of_row w g j cur _ (0, 0) hh]
      have hj' : j < l.length := (List.getElem?_eq_some_iff.1 hj).1
      have h2 : (l.map u64v)[j]? = some (u64v c) := by rw [List.getElem?_map, hj]; rfl
      rw [← ht, List.getElem?_take, if_pos (by omega)] at h2
      simpa [u64v] using h2
theorem OwnW.kept_ (h : OwnW w base v l) {row : Option Nat} (hg : w.grownBy w' row) (hne : v.ownBlock = none ∨ v.ownBlock ≠ row) : OwnW w' base v l := ⟨h.1, h.2.kept hg hne⟩
theorem OwnW.alloc_ (h : OwnW w base v l) (o : Obj) : OwnW (w.alloc o) base v l := ⟨h.1, h.2.alloc o⟩
theorem OwnW.drewN_ (h : OwnW w base v l) (n : Nat) : OwnW (w.drewN n) base v l := h
theorem OwnW.below_ (h : OwnW w base v l) {B : Nat} (hb : Below B w w') (hB : w.heap.size ≤ B) : OwnW w' base v l := by
  refine ⟨h.1, h.2.1, ?_⟩
  rcases h.2.2 with hn | ⟨g, cap, cur, rfl, hg, hh, hr⟩
  · exact .inl hn
  · refine .inr ⟨g, cap, cur, rfl, hg, ?_, hr⟩
    have hlt : g < w.heap.size := (Array.getElem?_eq_some_iff.1 hh).1
    rw [hb.block g (by omega)]
    exact hh
theorem OwnW.mono_ (h : OwnW w base v l) {base' : Nat} (hb : base' ≤ base) : OwnW w base' v l := by
  refine ⟨h.1, h.2.1, ?_⟩
  rcases h.2.2 with hn | ⟨g, cap, cur, rfl, hg, hr⟩
  · exact .inl hn
  · exact .inr ⟨g, cap, cur, rfl, by omega, hr⟩
theorem OwnW.lit_ (w : World) {base : Nat} (hb : base ≤ w.heap.size) {c : Nat} {x : Int} (hx : x = (c : Nat)) (hc : Mt.B64 c) : OwnW (w.alloc (.cells #[.int .u64 x] 22)) base (.slice (some ⟨w.heap.size, 0, none⟩) 1 1) [c] := by
  subst hx
  exact ⟨by simpa using hc, by simpa [u64v] using World.ownsRow_lit (base := base) (e := 22) (size := 1) w #[.int .u64 (c : Nat)] 1 hb (by simp [maxLen]) (by simp)⟩
theorem Wv.below_ (h : Wv w B v l) {B' : Nat} (hb : Below B' w w') (hB : B ≤ B') : Wv w' B v l := by
  obtain ⟨A, c, e, h1, h2, h3, h4⟩ := h
  exact ⟨A, c, e, h1, h2, h3, h4.below hb hB⟩
theorem Wv.mono_ (h : Wv w B v l) {B' : Nat} (hB : B ≤ B') : Wv w B' v l := by
  obtain ⟨A, c, e, h1, h2, h3, h4⟩ := h
  exact ⟨A, c, e, h1, h2, h3, h4.mono hB⟩
theorem Wv.take_ {A : Option Addr} {n c : Nat} (h : Wv w B (.slice A n c) l) {k : Nat} (hk : k ≤ l.length) : Wv w B (.slice A k c) (l.take k) := by
  obtain ⟨A', c', e, h1, h2, h3, h4, h5⟩ := h
  injection e with e1 e2 e3
  subst e1 e3
  refine ⟨A, c, by rw [List.length_take, Nat.min_eq_left hk], by rw [List.length_take]; omega, h2, h3, fun x hx => h4 x (List.mem_of_mem_take hx), fun hp => ?_⟩
  obtain ⟨b, off, e, hb, hc⟩ := h5 (by rw [List.length_take] at hp; omega)
  refine ⟨b, off, e, hb, fun j u hj => hc j u ?_⟩
  rw [List.getElem?_take] at hj
  split at hj
  · exact hj
  · cases hj
theorem Wv.one_ (w : World) {c : Nat} {x : Int} (hx : x = (c : Nat)) (hc : Mt.B64 c) : Wv (w.alloc (.cells #[.int .u64 x] 22)) (w.heap.size + 1) (.slice (some ⟨w.heap.size, 0, none⟩) 1 1) [c] := by
  subst hx
  have h := (OwnW.lit_ w (Nat.le_refl _) rfl hc).form_
  simpa using h
end

/-- What an append leaves. -/
structure ApdW (w w' : World) (base : Nat) (v v' : Value) (l : List Nat) : Prop where
  own : OwnW w' base v' l
  grown : w.grownBy w' v.ownBlock

theorem run_append_words (w : World) (base : Nat) (v : Value) (l : List Nat) (hown : OwnW w base v l) (x : Value) (B : Nat) (m : List Nat) (hx : Wv w B x m) (hsz : (l.length + m.length) * 8 ≤ 140737488355328) (hbase : base ≤ w.heap.size) :
    ∃ v' w', (Builtin.append_ #[50, 50] 50 #[v, x]).run Try.prog w = .ok v' w' ∧ ApdW w w' base v v' (l ++ m) := by
  obtain ⟨i0, hi, hz0, hz1, hz2⟩ := info_parts info22
  obtain ⟨A, c, rfl, hmc, hcm, hnil, hm⟩ := hx
  cases A with
  | none =>
    obtain rfl := hnil rfl
    obtain rfl : m = [] := List.eq_nil_of_length_eq_zero (by omega)
    refine ⟨v, w, run_append_owned_none w base _ _ _ i0 1 Try.underlying50 hi v l.length _ hown.2, by simpa using hown, ⟨rfl, rfl, rfl, Nat.le_refl _, fun _ _ _ => rfl⟩⟩
  | some ad =>
    have hnews : ∀ j u, (m.map u64v)[j]? = some u → w.cell? (ad.add j) = some u := by
      intro j u hu
      rw [List.getElem?_map] at hu
      cases hj : m[j]? with
      | none => rw [hj] at hu; cases hu
      | some c =>
        rw [hj] at hu
        have hj' : j < m.length := (List.getElem?_eq_some_iff.1 hj).1
        obtain ⟨b, off, e, _, hc⟩ := hm.2 (by omega)
        injection e with e
        subst e
        have := hc j c hj
        have ea : (⟨b, off, none⟩ : Addr).add j = ⟨b, off + j, none⟩ := by unfold Addr.add; split <;> simp_all
        rw [ea, this]
        simpa [u64v] using hu
    obtain ⟨v', w', hr, h1, h2, h3⟩ := run_append_own w base 50 50 22 i0 (.int .u64 0) 1 8 Try.underlying50 hi hz0 hz1 hz2 rfl (by decide) v l.length (l.map u64v) hown.2 ad m.length c (m.map u64v) (by simp) hnews
      (by intro u hu; obtain ⟨_, _, rfl⟩ := List.mem_map.1 hu; rfl) (by simp only [maxLen]; omega) (by omega) hbase
    refine ⟨v', w', hr, ⟨⟨?_, by simpa using h1⟩, h2⟩⟩
    intro x hx
    rcases List.mem_append.1 hx with h | h
    · exact hown.1 x h
    · exact hm.1 x h

theorem wpList_append_words (w : World) {ops : Array Oper} {rest : List Oper} {o : Oper} {a : Act} {Q : Exit → Act → World → Prop} (hgd : o.guard = none) (s t : Operand)
    (ho : o.op = .call { callee := .builtin .append, args := #[s, t], argTypes := #[50, 50] }) (hty : o.type = 50)
    (base : Nat) (v : Value) (hs : a.eval s = v) (l : List Nat) (hown : OwnW w base v l) (x : Value) (hx0 : a.eval t = x) (B : Nat) (m : List Nat) (hx : Wv w B x m) (hsz : (l.length + m.length) * 8 ≤ 140737488355328) (hbase : base ≤ w.heap.size)
    (h : ∀ A c w', ApdW w w' base v (.slice A (l ++ m).length c) (l ++ m) → wpList Try.prog ops Q rest (a.put o.dst (.slice A (l ++ m).length c)) w') : wpList Try.prog ops Q (o :: rest) a w :=
  wpList_plain hgd fun K hK => by
    obtain ⟨v', w', hr, hA⟩ := run_append_words w base v l hown x B m hx hsz hbase
    obtain ⟨A, c, rfl, _⟩ := hA.own.form_
    unfold Oper.wp execOp
    simp only [ho, resolve, invoke, builtin, Sem.run_bind, Sem.run_pure, Result.andThen_ok, List.map_toArray, List.map_cons, List.map_nil, hs, hx0, hr, hty]
    exact hK _ _ (h A c w' hA)
end Go.Proofs.Ytapedjcchcgoeaa
