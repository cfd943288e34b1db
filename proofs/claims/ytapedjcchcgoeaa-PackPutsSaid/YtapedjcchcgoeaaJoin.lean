/-
  leb.join lays rows one behind the other, in new memory without spare room.
-/
import Derived.Test.YtapedjcchcgoeaaApp
import Derived.Test.YtapedjcchcgoeaaCat
namespace Go.Proofs.Ytapedjcchcgoeaa
open Go.RowKit
set_option linter.unusedVariables false

/-- The value v is a slice of rows that hold these bytes. -/
def Rws (w : World) (B : Nat) (v : Value) (ls : List (List Nat)) : Prop :=
  ∃ b off c, v = .slice (some ⟨b, off, none⟩) ls.length c ∧ b < B ∧ ls.length ≤ c ∧ c ≤ maxLen ∧ ∀ j l, ls[j]? = some l → ∃ u, w.cell? ⟨b, off + j, none⟩ = some u ∧ Bv w B u l

theorem Rws.below_ {w w' : World} {B B' : Nat} {v : Value} {ls : List (List Nat)} (h : Rws w B v ls) (hb : Below B' w w') (hB : B ≤ B') : Rws w' B v ls := by
  obtain ⟨b, off, c, e, h1, h2, h3, h4⟩ := h
  refine ⟨b, off, c, e, h1, h2, h3, fun j l hj => ?_⟩
  obtain ⟨u, hu, hv⟩ := h4 j l hj
  exact ⟨u, (hb.cell (p := ⟨b, off + j, none⟩) (by show b < B'; omega)).trans hu, hv.below_ hb hB⟩

/-- A call that answers these bytes in new memory without spare room, and turns nothing that was there. -/
def IsFull (l : List Nat) (w : World) (e : Ending) (w' : World) : Prop :=
  ∃ g, e = .returned (.slice (some ⟨g, 0, none⟩) l.length l.length) ∧ OwnB w' w.heap.size (.slice (some ⟨g, 0, none⟩) l.length l.length) l ∧ Below w.heap.size w w'

theorem wpList_append_full (w : World) {ops : Array Oper} {rest : List Oper} {o : Oper} {a : Act} {Q : Exit → Act → World → Prop} (hgd : o.guard = none) (s t : Operand)
    (ho : o.op = .call { callee := .builtin .append, args := #[s, t], argTypes := #[28, 28] }) (hty : o.type = 28)
    (base g cap : Nat) (l : List Nat) (hs : a.eval s = .slice (some ⟨g, 0, none⟩) l.length cap) (hown : OwnB w base (.slice (some ⟨g, 0, none⟩) l.length cap) l) (x : Value) (hx0 : a.eval t = x) (B : Nat) (m : List Nat) (hx : Bv w B x m) (hsz : l.length + m.length ≤ cap)
    (h : ∀ w', OwnB w' base (.slice (some ⟨g, 0, none⟩) (l ++ m).length cap) (l ++ m) → w.grownBy w' (some g) → wpList Try.prog ops Q rest (a.put o.dst (.slice (some ⟨g, 0, none⟩) (l ++ m).length cap)) w') : wpList Try.prog ops Q (o :: rest) a w := by
  obtain ⟨i0, hi, hz0, hz1, hz2⟩ := info_parts info5
  obtain ⟨A, c, rfl, hmc, hcm, hnil, hm⟩ := hx
  refine wpList_append_fits_any w hgd s t 28 ho base 5 i0 1 Try.underlying28 hi hz1 g l.length cap (l.map u8) hs hown.2 A m.length c (m.map u8) hx0 (by simp) ?_ ?_ ?_ hsz ?_
  · intro e
    have := hnil e
    omega
  · rintro ad rfl j u hu
    rw [List.getElem?_map] at hu
    cases hj : m[j]? with
    | none => rw [hj] at hu; cases hu
    | some d =>
      rw [hj] at hu
      have hj' : j < m.length := (List.getElem?_eq_some_iff.1 hj).1
      obtain ⟨b, off, e, _, hc⟩ := hm.2 (by omega)
      injection e with e
      subst e
      have := hc j d hj
      have ea : (⟨b, off, none⟩ : Addr).add j = ⟨b, off + j, none⟩ := by unfold Addr.add; split <;> simp_all
      rw [ea, this]
      simpa [u8] using hu
  · intro u hu
    obtain ⟨_, _, rfl⟩ := List.mem_map.1 hu
    rfl
  · intro w' ho' hg'
    have hO : OwnB w' base (.slice (some ⟨g, 0, none⟩) (l ++ m).length cap) (l ++ m) := by
      refine ⟨?_, by simpa using ho'⟩
      intro x hx
      rcases List.mem_append.1 hx with h1 | h1
      · exact hown.1 x h1
      · exact hm.1 x h1
    have h2 := h w' hO hg'
    rwa [List.length_append] at h2

set_option maxHeartbeats 2000000 in
set_option maxRecDepth 100000 in
theorem join_any (v : Value) (ls : List (List Nat)) (B : Nat) (w : World) (hB : B ≤ w.heap.size) (h : Rws w B v ls) (hsz : (cat ls).length ≤ 140737488355328) :
    Calls Try.prog 36 #[v] w (IsFull (cat ls) w) := by
  have H0 := Lib.hid h
  obtain ⟨b, off, c, rfl, hbB, hc1, hc2, hcell⟩ := h
  have HC := Lib.hid hcell
  clear hcell
  unfold maxLen at hc2
  obtain ⟨i0, hi, hz0, hz1, hz2⟩ := info_parts info5
  go_enter Try.func36, Try.ntmps36
  go_wp2
  go_loop [3, 11] (fun z i => ∃ k : Nat, k ≤ ls.length ∧ i = .int .i64 k ∧ z = .int .i64 (cat (ls.take k)).length) (fun _ i => ls.length - (intOf i).toNat)
  case atStart => exact ⟨0, by omega, rfl, by simp [cat]⟩
  case round =>
    obtain ⟨k, hk, rfl, rfl⟩ := hrel
    by_cases hlt : k < ls.length
    · obtain ⟨u, hu, hbv⟩ := HC.out k _ (List.getElem?_eq_getElem hlt)
      have hf := flat_succ (List.getElem?_eq_getElem hlt)
      have hle := flat_le ls (k + 1)
      generalize ls[k] = l at hu hbv hf
      obtain ⟨A, cu, rfl, _, _, _, _⟩ := hbv
      have hf2 := congrArg List.length hf
      rw [List.length_append] at hf2
      have HF := Lib.hid hf2
      have hb1 : (cat (ls.take k)).length + l.length ≤ 140737488355328 := by omega
      clear hf hf2 hle
      go_wp2
      go_round
      case rel => exact ⟨k + 1, by omega, by go_num, by rw [HF.out]; go_num⟩
      case measure => simp [intOf]; omega
    · have hkk : k = ls.length := by omega
      subst hkk
      rw [List.take_length]
      have hb2 : i0.bytes * (cat ls).length ≤ 281474976710656 := by rw [hz2]; omega
      have hm3 : (cat ls).length ≤ maxLen := by simp only [maxLen]; omega
      go_wp2_with (at_make; go_must (refine wpList_make_own _ rfl _ _ 28 rfl w.heap.size 5 i0 (.int .u8 0) 1 Try.underlying28 hi hz0 hz1 .i64 .i64 _ (cat ls).length rfl rfl rfl hb2 hm3 (Nat.le_refl _) ?_; intro w1 hown hgrow))
      have how : OwnB w1 w.heap.size (.slice (some ⟨w.heap.size, 0, none⟩) 0 (cat ls).length) [] := ⟨by simp, hown⟩
      have hbel : Below w.heap.size w w1 := (Below.refl _ _).grown hgrow (Nat.le_refl _) (by intro k hk; cases hk)
      have h0 : Rws w1 B _ ls := H0.out.below_ hbel hB
      obtain ⟨w1', rfl⟩ : ∃ w', w' = w1 := ⟨_, rfl⟩
      clear hown hgrow hb2 hm3 hi hz0 hz1 hz2
      go_loopw [6, 24] (fun v i wr => ∃ k : Nat, k ≤ ls.length ∧ i = .int .i64 k ∧ v = .slice (some ⟨w.heap.size, 0, none⟩) (cat (ls.take k)).length (cat ls).length ∧ Hid (OwnB wr w.heap.size (.slice (some ⟨w.heap.size, 0, none⟩) (cat (ls.take k)).length (cat ls).length) (cat (ls.take k))) ∧ Below w.heap.size w wr) (fun _ i _ => ls.length - (intOf i).toNat)
      case atStart => exact ⟨0, by omega, rfl, by simp [cat], how, hbel⟩
      case round =>
        obtain ⟨k, hk, rfl, rfl, HO, hbr⟩ := hrel
        clear how hbel h0
        have hbase : w.heap.size ≤ wr.heap.size := hbr.size
        by_cases hlt : k < ls.length
        · obtain ⟨b', off', c', e', _, _, _, hcell⟩ := H0.out.below_ hbr hB
          injection e' with e1 e2 e3
          injection e1 with e1
          injection e1 with e4 e5
          subst e4 e5
          obtain ⟨u, hu, hbv⟩ := hcell k _ (List.getElem?_eq_getElem hlt)
          have hf := flat_succ (List.getElem?_eq_getElem hlt)
          have hle := flat_le ls (k + 1)
          generalize ls[k] = l at hu hbv hf
          have HBV := Lib.hid hbv
          obtain ⟨A, cu, rfl, _, _, _, _⟩ := hbv
          have HF := Lib.hid hf
          have hfit : (cat (ls.take k)).length + l.length ≤ (cat ls).length := by rw [hf, List.length_append] at hle; exact hle
          clear hf hle hcell e3 HC
          go_wp2_with (at_builtin; go_must (refine wpList_append_full _ rfl _ _ rfl rfl w.heap.size w.heap.size (cat ls).length (cat (ls.take k)) rfl HO.out _ rfl _ l HBV.out hfit ?_; intro w2 hO hg))
          go_roundw
          case rel => exact ⟨k + 1, by omega, by go_num, by rw [HF.out]; simp, by rw [HF.out]; exact hO, hbr.grown hg hbase (by intro k hk; injection hk with hk; omega)⟩
          case measure => simp [intOf]; omega
        · have hkk : k = ls.length := by omega
          subst hkk
          have ht : ls.take ls.length = ls := List.take_length
          rw [ht] at HO ⊢
          go_wp2
          go_ret
          exact ⟨w.heap.size, rfl, HO.out, hbr⟩
end Go.Proofs.Ytapedjcchcgoeaa
