/-
  Join: leb.join lays rows one behind the other, in new memory without spare room.
  Len: leb.Len answers how many bytes a number has.
  Put: leb.Put answers the bytes of a number, in new memory.
-/
import Derived.Test.YtlefkaoibokjdaaPc01
import Derived.Test.YtlefkaoibokjdaaPc05
import Derived.Test.YtlefkaoibokjdaaProg
import Derived.WalkKit
import Derived.Outline
import Derived.Lib.Hide
namespace Go.Proofs.Ytlefkaoibokjdaa
open Go.RowKit
set_option linter.unusedVariables false

/-- The value v is a slice of rows that hold these bytes. -/
def Rws (w : World) (B : Nat) (v : Value) (ls : List (List Nat)) : Prop :=
  ∃ b off c, v = .slice (some ⟨b, off, none⟩) ls.length c ∧ b < B ∧ ls.length ≤ c ∧ c ≤ maxLen ∧ ∀ j l, ls[j]? = some l → ∃ u, w.cell? ⟨b, off + j, none⟩ = some u ∧ Bv w B u l

theorem Rws.below_ {w w' : World} {B B' : Nat} {v : Value} {ls : List (List Nat)} (h : Rws w B v ls) (hb : Below B' w w') (hB : B ≤ B') : Rws w' B v ls := by
  obtain ⟨b, off, c, e, h1, h2, h3, h4⟩ := h
  refine ⟨b, off, c, e, h1, h2, h3, fun j l hj => ?_⟩
  obtain ⟨u, hu, hv⟩ := h4 j l hj
  exact ⟨u, (hb.cell (p := ⟨b, off + j, none⟩) (by show b < B'; omega)).trans hu, hv.below_ hb hB⟩

/-- A call that answers these bytes in new memory without spare room, and turns nothing that was there. -/
def IsFull (l : List Nat) (w : World) (e : Ending) (w' : World) : Prop :=
  ∃ g, e = .returned (.slice (some ⟨g, 0, none⟩) l.length l.length) ∧ OwnB w' w.heap.size (.slice (some ⟨g, 0, none⟩) l.length l.length) l ∧ Below w.heap.size w w'

set_option maxRecDepth 100000 in
theorem wpList_append_full (w : World) {ops : Array Oper} {rest : List Oper} {o : Oper} {a : Act} {Q : Exit → Act → World → Prop} (hgd : o.guard = none) (s t : Operand)
    (ho : o.op = .call { callee := .builtin .append, args := #[s, t], argTypes := #[27, 27] }) (hty : o.type = 27)
    (base g cap : Nat) (l : List Nat) (hs : a.eval s = .slice (some ⟨g, 0, none⟩) l.length cap) (hown : OwnB w base (.slice (some ⟨g, 0, none⟩) l.length cap) l) (x : Value) (hx0 : a.eval t = x) (B : Nat) (m : List Nat) (hx : Bv w B x m) (hsz : l.length + m.length ≤ cap)
    (h : ∀ w', OwnB w' base (.slice (some ⟨g, 0, none⟩) (l ++ m).length cap) (l ++ m) → w.grownBy w' (some g) → wpList Try.prog ops Q rest (a.put o.dst (.slice (some ⟨g, 0, none⟩) (l ++ m).length cap)) w') : wpList Try.prog ops Q (o :: rest) a w := by
  obtain ⟨i0, hi, hz0, hz1, hz2⟩ := info_parts info5
  obtain ⟨A, c, rfl, hmc, hcm, hnil, hm⟩ := hx
  refine wpList_append_fits_any w hgd s t 27 ho base 5 i0 1 Try.underlying27 hi hz1 g l.length cap (l.map u8) hs hown.2 A m.length c (m.map u8) hx0 (by simp) ?_ ?_ ?_ hsz ?_
  · intro e
    have := hnil e
    omega
  · rintro ad rfl j u hu
    rw [List.getElem?_map] at hu
    cases hj : m[j]? with
    | none => rw [hj] at hu; cases hu
    | some d =>
      rw [hj] at hu
      have hj' : j < m.length := (List.getElem?_eq_some_iff.1 hj).1
      obtain ⟨b, off, e, _, hc⟩ := hm.2 (by omega)
      injection e with e
      subst e
      have := hc j d hj
      have ea : (⟨b, off, none⟩ : Addr).add j = ⟨b, off + j, none⟩ := by unfold Addr.add; split <;> simp_all
      rw [ea, this]
      simpa [u8] using hu
  · intro u hu
    obtain ⟨_, _, rfl⟩ := List.mem_map.1 hu
    rfl
  · intro w' ho' hg'
    have hO : OwnB w' base (.slice (some ⟨g, 0, none⟩) (l ++ m).length cap) (l ++ m) := by
      refine ⟨?_, by simpa using ho'⟩
      intro x hx
      rcases List.mem_append.1 hx with h1 | h1
      · exact hown.1 x h1
      · exact hm.1 x h1
    have h2 := h w' hO hg'
    rwa [List.length_append] at h2

set_option maxHeartbeats 2000000 in
set_option maxRecDepth 100000 in
theorem join_any (v : Value) (ls : List (List Nat)) (B : Nat) (w : World) (hB : B ≤ w.heap.size) (h : Rws w B v ls) (hsz : (cat ls).length ≤ 140737488355328) :
    Calls Try.prog 60 #[v] w (IsFull (cat ls) w) := by
  have H0 := Lib.hid h
  obtain ⟨b, off, c, rfl, hbB, hc1, hc2, hcell⟩ := h
  have HC := Lib.hid hcell
  clear hcell
  unfold maxLen at hc2
  obtain ⟨i0, hi, hz0, hz1, hz2⟩ := info_parts info5
  go_enter Try.func60, Try.ntmps60
  go_wp2
  go_loop [3, 11] (fun z i => ∃ k : Nat, k ≤ ls.length ∧ i = .int .i64 k ∧ z = .int .i64 (cat (ls.take k)).length) (fun _ i => ls.length - (intOf i).toNat)
  case atStart => exact ⟨0, by omega, rfl, by simp [cat]⟩
  case round =>
    obtain ⟨k, hk, rfl, rfl⟩ := hrel
    by_cases hlt : k < ls.length
    · obtain ⟨u, hu, hbv⟩ := HC.out k _ (List.getElem?_eq_getElem hlt)
      have hf := flat_succ (List.getElem?_eq_getElem hlt)
      have hle := flat_le ls (k + 1)
      generalize ls[k] = l at hu hbv hf
      obtain ⟨A, cu, rfl, _, _, _, _⟩ := hbv
      have hf2 := congrArg List.length hf
      rw [List.length_append] at hf2
      have HF := Lib.hid hf2
      have hb1 : (cat (ls.take k)).length + l.length ≤ 140737488355328 := by omega
      clear hf hf2 hle
      go_wp2
      go_round
      case rel => exact ⟨k + 1, by omega, by go_num, by rw [HF.out]; go_num⟩
      case measure => simp [intOf]; omega
    · have hkk : k = ls.length := by omega
      subst hkk
      rw [List.take_length]
      have hb2 : i0.bytes * (cat ls).length ≤ 281474976710656 := by rw [hz2]; omega
      have hm3 : (cat ls).length ≤ maxLen := by simp only [maxLen]; omega
      go_wp2_with (at_make; go_must (refine wpList_make_own _ rfl _ _ 27 rfl w.heap.size 5 i0 (.int .u8 0) 1 Try.underlying27 hi hz0 hz1 .i64 .i64 _ (cat ls).length rfl rfl rfl hb2 hm3 (Nat.le_refl _) ?_; intro w1 hown hgrow))
      have how : OwnB w1 w.heap.size (.slice (some ⟨w.heap.size, 0, none⟩) 0 (cat ls).length) [] := ⟨by simp, hown⟩
      have hbel : Below w.heap.size w w1 := (Below.refl _ _).grown hgrow (Nat.le_refl _) (by intro k hk; cases hk)
      have h0 : Rws w1 B _ ls := H0.out.below_ hbel hB
      obtain ⟨w1', rfl⟩ : ∃ w', w' = w1 := ⟨_, rfl⟩
      clear hown hgrow hb2 hm3 hi hz0 hz1 hz2
      go_loopw [6, 24] (fun v i wr => ∃ k : Nat, k ≤ ls.length ∧ i = .int .i64 k ∧ v = .slice (some ⟨w.heap.size, 0, none⟩) (cat (ls.take k)).length (cat ls).length ∧ Hid (OwnB wr w.heap.size (.slice (some ⟨w.heap.size, 0, none⟩) (cat (ls.take k)).length (cat ls).length) (cat (ls.take k))) ∧ Below w.heap.size w wr) (fun _ i _ => ls.length - (intOf i).toNat)
      case atStart => exact ⟨0, by omega, rfl, by simp [cat], how, hbel⟩
      case round =>
        obtain ⟨k, hk, rfl, rfl, HO, hbr⟩ := hrel
        clear how hbel h0
        have hbase : w.heap.size ≤ wr.heap.size := hbr.size
        by_cases hlt : k < ls.length
        · obtain ⟨b', off', c', e', _, _, _, hcell⟩ := H0.out.below_ hbr hB
          injection e' with e1 e2 e3
          injection e1 with e1
          injection e1 with e4 e5
          subst e4 e5
          obtain ⟨u, hu, hbv⟩ := hcell k _ (List.getElem?_eq_getElem hlt)
          have hf := flat_succ (List.getElem?_eq_getElem hlt)
          have hle := flat_le ls (k + 1)
          generalize ls[k] = l at hu hbv hf
          have HBV := Lib.hid hbv
          obtain ⟨A, cu, rfl, _, _, _, _⟩ := hbv
          have HF := Lib.hid hf
          have hfit : (cat (ls.take k)).length + l.length ≤ (cat ls).length := by rw [hf, List.length_append] at hle; exact hle
          clear hf hle hcell e3 HC
          go_wp2_with (at_builtin; go_must (refine wpList_append_full _ rfl _ _ rfl rfl w.heap.size w.heap.size (cat ls).length (cat (ls.take k)) rfl HO.out _ rfl _ l HBV.out hfit ?_; intro w2 hO hg))
          go_roundw
          case rel => exact ⟨k + 1, by omega, by go_num, by rw [HF.out]; simp, by rw [HF.out]; exact hO, hbr.grown hg hbase (by intro k hk; injection hk with hk; omega)⟩
          case measure => simp [intOf]; omega
        · have hkk : k = ls.length := by omega
          subst hkk
          have ht : ls.take ls.length = ls := List.take_length
          rw [ht] at HO ⊢
          go_wp2
          go_ret
          exact ⟨w.heap.size, rfl, HO.out, hbr⟩
end Go.Proofs.Ytlefkaoibokjdaa
namespace Go.Proofs.Ytlefkaoibokjdaa
open Go.RowKit
set_option linter.unusedVariables false

set_option maxHeartbeats 400000 in
theorem len_any (n : Nat) (hn : Mt.B64 n) (w : World) :
    Calls Try.prog 59 #[.int .u64 n] w fun e w' => e = .returned (.int .i64 (Mt.put n).length) ∧ w = w' := by
  have hl := Mt.put_length hn
  have hd := Mt.b64_div hn
  have HL : Hid ((Mt.put n).length = 1 + Mt.ln (n / 128)) := hl
  clear hl
  go_enter Try.func59, Try.ntmps59
  go_wp2
  go_loop [0, 3] (fun m z => ∃ (q k : Nat), Mt.B64 q ∧ k ≤ 10 ∧ m = .int .u64 q ∧ z = .int .i64 k ∧ Hid ((Mt.put n).length = k + Mt.ln q)) (fun m _ => (intOf m).toNat)
  case atStart => exact ⟨n / 128, 1, hd, by omega, by simp, rfl, HL⟩
  case round =>
    obtain ⟨q, k, hq, hk, rfl, rfl, HR⟩ := hrel
    by_cases h : 0 < q
    · have hs := Mt.ln_step hq h
      have h1 := Mt.b64_div hq
      have h2 := Mt.put_len_le n
      have h3 := HR.out
      have H4 : Hid ((Mt.put n).length = (k + 1) + Mt.ln (q / 128)) := by unfold Hid; omega
      have h5 : k + 1 ≤ 10 := by omega
      clear hs h2 h3 HR HL
      go_wp2
      go_round
      case rel => exact ⟨q / 128, k + 1, h1, h5, by simp, by go_num, H4⟩
      case measure => simp [intOf]; omega
    · have h0 : q = 0 := by omega
      subst h0
      go_wp2
      go_ret
      exact ⟨by rw [HR.out, Mt.ln_zero]; rfl, rfl⟩
end Go.Proofs.Ytlefkaoibokjdaa
namespace Go.Proofs.Ytlefkaoibokjdaa
open Go.RowKit
set_option linter.unusedVariables false

/-- A call that answers these bytes in new memory, and turns nothing that was there. -/
def IsFresh (l : List Nat) (w : World) (e : Ending) (w' : World) : Prop :=
  ∃ A c, e = .returned (.slice A l.length c) ∧ OwnB w' w.heap.size (.slice A l.length c) l ∧ Below w.heap.size w w'

set_option maxHeartbeats 400000 in
set_option maxRecDepth 100000 in
theorem put_any (n : Nat) (hn : Mt.B64 n) (w : World) :
    Calls Try.prog 38 #[.int .u64 n] w (IsFresh (Mt.put n) w) := by
  have hlen := Mt.put_len_le n
  obtain ⟨i0, hi, hz0, hz1, hz2⟩ := info_parts info5
  go_enter Try.func38, Try.ntmps38
  have hb2 : i0.bytes * (Mt.put n).length ≤ 281474976710656 := by rw [hz2]; omega
  have hm3 : (Mt.put n).length ≤ maxLen := by simp only [maxLen]; omega
  clear hlen
  go_wp2_with (first | (go_at_call 59; refine (len_any _ hn _).mono ?_; rintro e w' ⟨rfl, rfl⟩) | (at_make; go_must (refine wpList_make_own _ rfl _ _ 27 rfl w.heap.size 5 i0 (.int .u8 0) 1 Try.underlying27 hi hz0 hz1 .i64 .i64 _ (Mt.put n).length rfl rfl rfl hb2 hm3 (Nat.le_refl _) ?_; intro w1 hown hgrow)))
  have how : OwnB w1 w.heap.size (.slice (some ⟨w.heap.size, 0, none⟩) 0 (Mt.put n).length) [] := ⟨by simp, hown⟩
  have hbel : Below w.heap.size w w1 := (Below.refl _ _).grown hgrow (Nat.le_refl _) (by intro k hk; cases hk)
  clear hown hgrow hb2 hm3
  go_loopw [0, 3] (fun m v wr => ∃ (q : Nat) (l : List Nat), m = .int .u64 q ∧ Hid (Mt.B64 q) ∧ Hid (OwnB wr w.heap.size v l) ∧ Hid (Mt.put n = l ++ Mt.put q) ∧ Below w.heap.size w wr) (fun m _ _ => (intOf m).toNat)
  case atStart => exact ⟨n, [], rfl, hn, how, rfl, hbel⟩
  case round =>
    obtain ⟨q, l, rfl, HQ, HO, HP, hbr⟩ := hrel
    clear how hbel hi hz0 hz1 hz2
    have hbase : w.heap.size ≤ wr.heap.size := hbr.size
    have hl10 : l.length ≤ 10 := by
      have h1 := Mt.put_len_le n
      rw [HP.out, List.length_append] at h1
      omega
    by_cases h : 128 ≤ q
    · have HP2 : Hid (Mt.put n = (l ++ [q % 128 + 128]) ++ Mt.put (q / 128)) := by
        unfold Hid
        rw [HP.out, Mt.put_step h HQ.out]
        simp
      have HQ2 : Hid (Mt.B64 (q / 128)) := Mt.b64_div HQ.out
      have hown1 := HO.out.alloc_ (.cells #[.int .u8 (bits BinOp.or IntKind.u8 ((q : Int) % 256) 128)] 5)
      have hsrc := Bv.one_ wr (or128 q) (by omega)
      have hbel1 := hbr.alloc hbase (.cells #[.int .u8 (bits BinOp.or IntKind.u8 ((q : Int) % 256) 128)] 5)
      have HO1 := Lib.hid hown1
      have HS := Lib.hid hsrc
      have HB := Lib.hid hbel1
      clear hown1 hsrc hbel1 HP HO HQ hn
      go_wp2_with (at_builtin; go_must (refine wpList_append_bytes _ rfl _ _ rfl rfl w.heap.size _ rfl l HO1.out _ rfl _ [q % 128 + 128] HS.out (by simp; omega) (by simp; omega) ?_; intro A c w2 hA))
      go_roundw
      case rel => exact ⟨q / 128, l ++ [q % 128 + 128], by simp, HQ2, (by simpa [Hid] using hA.own), HP2, HB.out.grown hA.grown (by simp; omega) (fun k hk => (HO1.out.lt_ k hk).1)⟩
      case measure => simp [intOf]; omega
    · have HP2 : Hid (Mt.put n = l ++ [q]) := by
        unfold Hid
        rw [HP.out, Mt.put_small (by omega)]
      have hown1 := HO.out.alloc_ (.cells #[.int .u8 (q : Int)] 5)
      have hsrc := Bv.one_ wr (x := (q : Int)) (c := q) rfl (by omega)
      have hbel1 := hbr.alloc hbase (.cells #[.int .u8 (q : Int)] 5)
      have HO1 := Lib.hid hown1
      have HS := Lib.hid hsrc
      have HB := Lib.hid hbel1
      clear hown1 hsrc hbel1 HP HO HQ hn
      go_wp2_with (at_builtin; go_must (refine wpList_append_bytes _ rfl _ _ rfl rfl w.heap.size _ rfl l HO1.out _ rfl _ [q] HS.out (by simp; omega) (by simp; omega) ?_; intro A c w2 hA))
      go_ret
      exact ⟨A, c, by rw [HP2.out]; simp, by rw [HP2.out]; exact hA.own, HB.out.grown hA.grown (by simp; omega) (fun k hk => (HO1.out.lt_ k hk).1)⟩
end Go.Proofs.Ytlefkaoibokjdaa
