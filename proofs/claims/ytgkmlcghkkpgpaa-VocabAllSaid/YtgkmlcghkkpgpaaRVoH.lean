/-
  Lists of lists of whatever elements: lists that come in (LLv), and lists that a call makes, whose rows lie in memory of its own too (OwnLL).
  stookref08.All: the bytes of all tokens.
-/
import Derived.Test.YtgkmlcghkkpgpaaTurn
import Derived.Test.YtgkmlcghkkpgpaaRVoDx
namespace Go.Proofs.Ytgkmlcghkkpgpaa
open Go.RowKit
set_option linter.unusedVariables false

/-- The kind of lists of lists of this kind. -/
structure RK (P : Program) {α : Type} (K : El P α) where
  t : TypeId
  under : P.underlying t = some (.slice K.s)
  info : (P.info? K.s).map (fun i => (i.zero, i.size, i.bytes)) = some (some (.slice none 0 0), 1, 24)
  apart : K.s ≠ K.e
/-- A slice: where it lies, its length, its capacity. -/
abbrev S3 := Option Addr × Nat × Nat
def sv (u : S3) : Value := .slice u.1 u.2.1 u.2.2
section
variable {P : Program} {α : Type} {K : El P α}
/-- Their elements, as values. -/
def vK (R : RK P K) : El P S3 where
  e := K.s
  s := R.t
  size := 1
  bytes := 24
  zero := .slice none 0 0
  z := (none, 0, 0)
  enc := fun u => [sv u]
  ok := fun u => True
  len := fun _ => rfl
  one := fun x u hu => by simp at hu; subst hu; rfl
  okz := trivial
  encz := rfl
  pos := by decide
  under := R.under
  info := R.info
/-- The value reads as these lists, in blocks below B. -/
def LLv (R : RK P K) (w : World) (B : Nat) (v : Value) (ls : List (List α)) : Prop :=
  ∃ us : List S3, us.length = ls.length ∧ Lv (vK R) w B v us ∧ ∀ (j : Nat) (u : S3) (l : List α), us[j]? = some u → ls[j]? = some l → Lv K w B (sv u) l
/-- The call's own list, its rows the call's own too. -/
def OwnLL (R : RK P K) (w : World) (base : Nat) (v : Value) (ls : List (List α)) : Prop :=
  ∃ us : List S3, us.length = ls.length ∧ OwnL (vK R) w base v us ∧ ∀ (j : Nat) (u : S3) (l : List α), us[j]? = some u → ls[j]? = some l → OwnL K w base (sv u) l
variable {R : RK P K} {w w' : World} {base B : Nat} {v : Value} {ls : List (List α)}
theorem LLv.below_ (h : LLv R w B v ls) {B' : Nat} (hb : Below B' w w') (hB : B ≤ B') : LLv R w' B v ls := by
  obtain ⟨us, h1, h2, h3⟩ := h
  exact ⟨us, h1, h2.below_ hb hB, fun j u l hu hl => (h3 j u l hu hl).below_ hb hB⟩
theorem LLv.mono_ (h : LLv R w B v ls) {B' : Nat} (hB : B ≤ B') : LLv R w B' v ls := by
  obtain ⟨us, h1, h2, h3⟩ := h
  exact ⟨us, h1, h2.mono_ hB, fun j u l hu hl => (h3 j u l hu hl).mono_ hB⟩
theorem LLv.nil_ (R : RK P K) (w : World) (B : Nat) : LLv R w B (.slice none 0 0) [] := ⟨[], rfl, Lv.nil_ _ _ _, fun j u l h => by simp at h⟩
theorem LLv.len_ {A : Option Addr} {n c : Nat} (h : LLv R w B (.slice A n c) ls) : n = ls.length := by
  obtain ⟨us, h1, h2, _⟩ := h
  rw [h2.len_.1, h1]
theorem LLv.at_ {A : Option Addr} {n c : Nat} (h : LLv R w B (.slice A n c) ls) {k : Nat} (hk : k < ls.length) :
    ∃ b off A' c' l, A = some ⟨b, off, none⟩ ∧ b < B ∧ ls[k]? = some l ∧ w.cell? ⟨b, off + k, none⟩ = some (.slice A' l.length c') ∧ Lv K w B (.slice A' l.length c') l := by
  obtain ⟨us, h1, h2, h3⟩ := h
  have hk' : k < us.length := by omega
  obtain ⟨b, off, u, e, hb, _, hu, hc⟩ := h2.at_ hk'
  have hl := List.getElem?_eq_getElem hk
  obtain ⟨l, hl2⟩ : ∃ l, ls[k] = l := ⟨_, rfl⟩
  rw [hl2] at hl
  have hv := h3 k u l hu hl
  have h6 := hc 0 (sv u) rfl
  obtain ⟨A', n', c'⟩ := u
  have hn : n' = l.length := hv.len_.1
  subst hn
  refine ⟨b, off, A', c', l, e, hb, hl, ?_, hv⟩
  have e2 : off + (k * (vK R).size + 0) = off + k := by show off + (k * 1 + 0) = _; omega
  rw [e2] at h6
  exact h6
theorem OwnLL.nil_ (R : RK P K) (w : World) (base : Nat) : OwnLL R w base (.slice none 0 0) [] := ⟨[], rfl, OwnL.nil_ _ _ _, fun j u l h => by simp at h⟩
theorem OwnLL.form_ (h : OwnLL R w base v ls) : LLv R w w.heap.size v ls := by
  obtain ⟨us, h1, h2, h3⟩ := h
  exact ⟨us, h1, h2.form_, fun j u l hu hl => (h3 j u l hu hl).form_⟩
theorem OwnLL.mono_ (h : OwnLL R w base v ls) {base' : Nat} (hb : base' ≤ base) : OwnLL R w base' v ls := by
  obtain ⟨us, h1, h2, h3⟩ := h
  exact ⟨us, h1, h2.mono_ hb, fun j u l hu hl => (h3 j u l hu hl).mono_ hb⟩
theorem OwnLL.below_ (h : OwnLL R w base v ls) {B : Nat} (hb : Below B w w') (hB : w.heap.size ≤ B) : OwnLL R w' base v ls := by
  obtain ⟨us, h1, h2, h3⟩ := h
  exact ⟨us, h1, h2.below_ hb hB, fun j u l hu hl => (h3 j u l hu hl).below_ hb hB⟩
theorem OwnLL.alloc_ (h : OwnLL R w base v ls) (o : Obj) : OwnLL R (w.alloc o) base v ls := by
  obtain ⟨us, h1, h2, h3⟩ := h
  exact ⟨us, h1, h2.alloc_ o, fun j u l hu hl => (h3 j u l hu hl).alloc_ o⟩
theorem OwnLL.drew_ (h : OwnLL R w base v ls) : OwnLL R w.drew base v ls := h
theorem OwnLL.own_ (h : OwnLL R w base v ls) : ∃ us : List S3, us.length = ls.length ∧ OwnL (vK R) w base v us := by
  obtain ⟨us, h1, h2, _⟩ := h
  exact ⟨us, h1, h2⟩
/-- A list of rows and a row never share a block: the elements' types are unlike. -/
theorem row_apart {us : List S3} {u : Value} {l : List α} {b b' : Nat} (h : OwnL (vK R) w b v us) (hu : OwnL K w b' u l) : u.ownBlock = none ∨ u.ownBlock ≠ v.ownBlock := by
  rcases h.2 with ⟨rfl, _⟩ | ⟨g, s, rfl, _, _, _, hh⟩
  · cases he : u.ownBlock with
    | none => exact .inl rfl
    | some k => exact .inr (fun e => by cases e)
  · rcases hu.2 with ⟨rfl, _⟩ | ⟨g', s', rfl, _, _, _, hh'⟩
    · exact .inl rfl
    · refine .inr (fun e => ?_)
      have e' : g' = g := Option.some.inj e
      subst e'
      rw [hh] at hh'
      have := Option.some.inj hh'
      injection this with _ e2 _
      exact R.apart e2
end
/-- A row put behind: append of a literal that was laid ahead of it. -/
theorem wpList_push_row {P : Program} {α : Type} {K : El P α} (R : RK P K) (w : World) {ops : Array Oper} {rest : List Oper} {o : Oper} {a : Act} {Q : Exit → Act → World → Prop} (hgd : o.guard = none) (s t : Operand)
    (ho : o.op = .call { callee := .builtin .append, args := #[s, t], argTypes := #[R.t, R.t] })
    (base : Nat) (v : Value) (hs : a.eval s = v) (ls : List (List α)) (hown : OwnLL R w base v ls) (ht : a.eval t = .slice (some ⟨w.heap.size, 0, none⟩) 1 1) (u : S3) (l : List α) (hu : OwnL K w base (sv u) l) (cs : Array Value) (hcs : cs = #[sv u]) (e : TypeId) (he : e = K.s) (hsz : (ls.length + 1) * 24 ≤ 140737488355328) (h63 : ls.length + 1 ≤ maxLen) (hbase : base ≤ w.heap.size)
    (h : ∀ A c w', OwnLL R w' base (.slice A (ls.length + 1) c) (ls ++ [l]) → w.grownBy w' v.ownBlock → wpList P ops Q rest (a.put o.dst (.slice A (ls.length + 1) c)) w') : wpList P ops Q (o :: rest) a (w.alloc (.cells cs e)) := by
  obtain ⟨us, h1, h2, h3⟩ := id hown
  refine wpList_push_l w (vK R) hgd s t ho base v hs us h2 ht u trivial cs hcs e he (by rw [h1]; exact hsz) (by rw [h1]; exact h63) hbase fun A c w' h4 h5 => ?_
  rw [h1] at h4 ⊢
  refine h A c w' ⟨us ++ [u], by simp [h1], h4, fun j x y hx hy => ?_⟩ h5
  by_cases hj : j < us.length
  · rw [List.getElem?_append_left hj] at hx
    rw [List.getElem?_append_left (by omega)] at hy
    have h6 := h3 j x y hx hy
    exact h6.kept_ h5 (row_apart h2 h6)
  · have hj2 : j = us.length := by
      have := (List.getElem?_eq_some_iff.1 hx).1
      simp at this
      omega
    subst hj2
    rw [List.getElem?_append_right (Nat.le_refl _), Nat.sub_self] at hx
    rw [h1, List.getElem?_append_right (Nat.le_refl _), Nat.sub_self] at hy
    simp at hx hy
    subst hx hy
    exact hu.kept_ h5 (row_apart h2 hu)
end Go.Proofs.Ytgkmlcghkkpgpaa
namespace Go.Proofs.Ytgkmlcghkkpgpaa
open Go.RowKit
set_option linter.unusedVariables false

def yR : RK Try.prog yK where
  t := 50
  under := Try.underlying50
  info := by kernel_rfl
  apart := by decide
theorem Vo.texts_get {P : List Vo.Pc} {k : Nat} (hk : k < P.length) : (Vo.texts P)[k]? = some (Vo.text P k) := by
  rw [Vo.text, List.getD_eq_getElem?_getD, List.getElem?_eq_getElem (by rw [Vo.texts_len]; exact hk)]
  rfl

set_option maxHeartbeats 2000000 in
theorem rall_any (P : List Vo.Pc) (hg : Vo.Good P) (v : Value) (B : Nat) (w : World) (hv : Lv pK w B v P) (hB : B ≤ w.heap.size) (hP : P.length ≤ 4194304) :
    Calls Try.prog 30 #[.agg #[v]] w (fun e w' => ∃ A c, e = .returned (.slice A P.length c) ∧ OwnLL yR w' w.heap.size (.slice A P.length c) (Vo.texts P) ∧ Below w.heap.size w w') := by
  obtain ⟨A, c, rfl, _, _, _, _⟩ := id hv
  obtain ⟨W, hW⟩ : ∃ W, w.alloc (.cells #[.slice A P.length c] 24) = W := ⟨_, rfl⟩
  have d0 : W.cell? ⟨w.heap.size, 0, none⟩ = some (.slice A P.length c) := by
    rw [← hW, cell_of_row _ w.heap.size 0 _ _ _ (heap_alloc_new w _)]; rfl
  have HB : Hid (Below w.heap.size w W) := by unfold Hid; rw [← hW]; exact (Below.refl _ _).alloc (Nat.le_refl _) _
  have HSZ : Hid (W.heap.size = w.heap.size + 1) := by unfold Hid; rw [← hW]; simp
  have HV := Lib.hid (hv.below_ HB.out hB)
  have HG := Lib.hid hg
  have HBB := Lib.hid hB
  obtain ⟨n, hn⟩ : ∃ n, P.length = n := ⟨_, rfl⟩
  have HN := Lib.hid hn
  have HNP : Hid (n ≤ 4194304) := by unfold Hid; omega
  rw [hn] at d0 hW HV ⊢
  clear hv hg hB hn hP
  go_enter Try.func30, Try.ntmps30
  go_wp2
  go_loopw [3, 4] (fun s i wr => ∃ (k : Nat) (A3 : Option Addr) (c3 : Nat), k ≤ n ∧ s = .slice A3 k c3 ∧ i = .int .i64 k ∧ Hid (OwnLL yR wr W.heap.size (.slice A3 k c3) ((Vo.texts P).take k)) ∧ Below W.heap.size W wr) (fun _ i _ => n - (intOf i).toNat)
  case atStart => exact ⟨0, none, 0, Nat.zero_le _, rfl, rfl, OwnLL.nil_ _ _ _, Below.refl _ _⟩
  case round =>
    obtain ⟨k, A3, c3, hk, rfl, rfl, HO, hbr⟩ := hrel
    have HBR := Lib.hid hbr
    have e0 := (hbr.cell (p := ⟨w.heap.size, 0, none⟩) (by have := HSZ.out; show w.heap.size < _; omega)).trans d0
    clear hbr
    by_cases hlt : k < n
    · have g1 : (k : Int) < (n : Int) := by omega
      have hkP : k < P.length := by have := HN.out; omega
      have HC := Lib.hid (rbytes_any P HG.out _ B k wr hkP (HV.out.below_ (HBR.out.mono (show B ≤ W.heap.size by have := HSZ.out; have := HBB.out; omega)) (Nat.le_refl _)) (by have := HBR.out.size; have := HSZ.out; have := HBB.out; omega))
      obtain ⟨t, ht⟩ : ∃ t, Vo.text P k = t := ⟨_, rfl⟩
      have HT : Hid ((Vo.texts P)[k]? = some t) := by unfold Hid; rw [← ht]; exact Vo.texts_get hkP
      rw [ht] at HC
      have hwk : IntKind.i64.wrap ((k : Int) + 1) = (k : Int) + 1 := by have := HNP.out; rw [IntKind.wrap_i64]; omega
      clear ht hkP
      go_wp2_with (fail)
      refine (HC.out).mono ?_
      rintro e w2 ⟨A4, c4, rfl, ho4, hb4⟩
      obtain ⟨T, hT⟩ : ∃ T, (Vo.texts P).take k = T := ⟨_, rfl⟩
      have HTL : Hid (T.length = k) := by unfold Hid; rw [← hT, List.length_take, Vo.texts_len, HN.out]; omega
      have HTN : Hid ((Vo.texts P).take (k + 1) = T ++ [t]) := by unfold Hid; rw [take_snoc HT.out, hT]
      rw [hT] at HO
      have HO2 := Lib.hid (HO.out.below_ hb4 (Nat.le_refl _))
      have HU : Hid (OwnL yK w2 W.heap.size (sv (A4, t.length, c4)) t) := ho4.mono_ HBR.out.size
      have HB2 : Hid (Below W.heap.size W w2) := HBR.out.trans (hb4.mono HBR.out.size)
      have hbase : W.heap.size ≤ w2.heap.size := HB2.out.size
      have HLT := Lib.hid hlt
      have hk9 : k < 4194304 := by have := HNP.out; omega
      clear hT ho4 hb4 HC HO HBR e0
      go_wp2_with (at_builtin; go_must (refine wpList_push_row yR _ rfl _ _ rfl W.heap.size _ rfl T HO2.out rfl (A4, t.length, c4) t HU.out _ rfl _ rfl (by rw [HTL.out]; omega) (by rw [HTL.out]; simp only [maxLen]; omega) hbase ?_; intro A5 c5 w5 hA hG))
      rw [HTL.out] at hA
      rw [HTL.out]
      have HO5 : Hid (OwnLL yR w5 W.heap.size (.slice A5 (k + 1) c5) ((Vo.texts P).take (k + 1))) := by unfold Hid; rw [HTN.out]; exact hA
      have HB5 : Hid (Below W.heap.size W w5) := HB2.out.grown hG HB2.out.size (fun j hj => by
        obtain ⟨us, _, h2⟩ := HO2.out.own_
        exact (h2.lt_ j hj).1)
      clear hA hG HO2 HU HB2 hbase
      go_wp2
      exact ⟨⟨k + 1, A5, c5, by have := HLT.out; omega, rfl, by go_num, HO5.out, HB5.out⟩, by have := HLT.out; simp [intOf]; omega⟩
    · have g1 : ¬ (k : Int) < (n : Int) := by omega
      obtain rfl : k = n := by omega
      have HE : Hid (OwnLL yR wr w.heap.size (.slice A3 k c3) (Vo.texts P) ∧ Below w.heap.size w wr) := by
        refine ⟨?_, HB.out.trans (HBR.out.mono HB.out.size)⟩
        have h := HO.out
        rw [List.take_of_length_le (by rw [Vo.texts_len, HN.out]; exact Nat.le_refl _)] at h
        exact h.mono_ (by have := HSZ.out; omega)
      clear HO
      go_wp2
      go_ret
      exact ⟨A3, c3, rfl, HE.out.1, HE.out.2⟩
end Go.Proofs.Ytgkmlcghkkpgpaa
