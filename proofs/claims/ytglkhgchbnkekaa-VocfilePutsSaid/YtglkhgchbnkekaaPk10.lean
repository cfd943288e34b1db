/-
  FrameV: From what a row says of a vocabulary (api.Vocab by value) to a list of pieces.
  Get: leb.Get answers what reading a number tells.
  Grow: A region whose order is drawn, where each operation but the last ones yields the same value in whatever world of a set that none of them leaves (calls that only make memory among them).
-/
import Derived.Test.YtglkhgchbnkekaaPk08
import Derived.Test.YtglkhgchbnkekaaPk09
import Derived.Test.YtglkhgchbnkekaaPk01
import Derived.Test.YtglkhgchbnkekaaProg
import Derived.WalkKit
import Derived.StillTailTactics
import Derived.Deep.MidRow
namespace Go.Proofs.Ytglkhgchbnkekaa
open Go.ChangeShapes Go.WideShapes Go.RowKit Go.Deep
set_option linter.unusedVariables false

/-- The pieces of a vocabulary by value. -/
theorem pieces_field (u : Value) (w : World) : (Instr.field 24 (.agg #[u]) 0).run Try.prog w = .ok u w := by
  simp [Instr.field, go_sem, part, run_underlying Try.underlying24, asAgg]
theorem bounds_i64' {a : Int} (h : (Lit.int .i64 a).wf = true) : I64 a := by
  have := bounds_i64 h
  unfold I64
  omega
set_option maxRecDepth 100000 in
theorem voc_in {H : Type} {enc : TypeId × Value → H} {w : World} {b : Nat} {sp : Nat → Bool} {held : Bool} {v : Value} {d : DataW H} {p : List MemPlace}
    (hok : Value.okWide Try.prog w .any b 24 v) (h : DataW.Trod enc Try.prog w 0 sp held 24 v d p) : ∃ (u : Value) (l : List Vo.Pc), v = .agg #[u] ∧ Lv pK w w.heap.size u l := by
  obtain ⟨cs, rfl, hsz⟩ := okWide_struct Try.underlying24 hok
  obtain ⟨fuel, hf⟩ := h
  obtain ⟨hl, hx⟩ := dec_fields Try.underlying24 (by kernel_rfl) (by kernel_rfl) hf
  obtain ⟨n0, v0, y0, h0, g0⟩ := hx 0 _ rfl
  have hsz1 : cs.size = 1 := hl
  have hcs : cs = #[v0] := by
    apply Array.ext_getElem?
    intro i
    cases i with
    | zero => simpa [Value.cells] using h0
    | succ i => rw [Array.getElem?_eq_none (by omega), Array.getElem?_eq_none (by simp)]
  subst hcs
  have hv0 : ∃ a n c, v0 = .slice a n c := by
    rcases open_slice Try.underlying22 g0 with ⟨h1, _⟩ | ⟨_, _, _, _, _, _, _, h1, _⟩
    · exact ⟨_, _, _, by simpa using h1⟩
    · exact ⟨_, _, _, by simpa using h1⟩
  obtain ⟨a, n, c, rfl⟩ := hv0
  obtain ⟨l, _, hb⟩ := pieces_in g0
  exact ⟨_, l, rfl, hb⟩
end Go.Proofs.Ytglkhgchbnkekaa
namespace Go.Proofs.Ytglkhgchbnkekaa
open Go.RowKit
set_option linter.unusedVariables false

/-- A call that answers these three numbers, and turns nothing that was there. -/
def IsGot (r : Nat × Nat × Nat) (w : World) (e : Ending) (w' : World) : Prop :=
  e = .returned (.tuple #[.int .u64 r.1, .int .i64 r.2.1, .int .i64 r.2.2]) ∧ Below w.heap.size w w'

theorem IsGot.of {w w' : World} {r : Nat × Nat × Nat} {n k e : Nat} (h : r = (n, k, e)) (hb : Below w.heap.size w w') : IsGot r w (.returned (.tuple #[.int .u64 (n : Nat), .int .i64 (k : Nat), .int .i64 (e : Nat)])) w' := by
  subst h; exact ⟨rfl, hb⟩

set_option maxHeartbeats 400000 in
theorem get_arg (A : Option Addr) (l : List Nat) (cap : Nat) (a : Int) (w : World) (hlen : l.length ≤ maxLen) (h : a < 0 ∨ (l.length : Int) < a) :
    Calls Try.prog 74 #[.slice A l.length cap, .int .i64 a] w (IsGot (Mt.get l a) w) := by
  have HR := Lib.hid (Mt.get_arg h)
  unfold maxLen at hlen
  by_cases h1 : a < 0
  · clear h
    go_enter Try.func74, Try.ntmps74
    go_wp2
    go_step3
    go_wp2
    rw [Exit.noGoto_ret]
    go_ret3
    exact IsGot.of HR.out (Below.refl _ _)
  · have h2 : (l.length : Int) < a := by omega
    clear h
    go_enter Try.func74, Try.ntmps74
    go_wp2
    go_step3
    go_wp2
    rw [Exit.noGoto_ret]
    go_ret3
    exact IsGot.of HR.out (Below.refl _ _)

set_option maxHeartbeats 400000 in
theorem get_end (A : Option Addr) (l : List Nat) (cap : Nat) (w : World) (hlen : l.length ≤ cap) (hcap : cap ≤ maxLen) :
    Calls Try.prog 74 #[.slice A l.length cap, .int .i64 l.length] w (IsGot (Mt.get l l.length) w) := by
  have HR := Lib.hid (Mt.get_err (l := l) (a := l.length) (e := 4) (by omega) (by simp [Mt.rd_nil]) (by decide))
  unfold maxLen at hcap
  by_cases hc : cap = l.length
  · subst hc
    go_enter Try.func74, Try.ntmps74
    go_wp2
    go_step3
    go_wp2
    go_step3
    go_wp2
    refine wp_loop_rounds 1 ?_
    rw [rounds_succ]
    go_wp2
    rw [Exit.noGoto_ret]
    go_ret3
    exact IsGot.of HR.out (Below.refl _ _)
  · go_enter Try.func74, Try.ntmps74
    go_wp2
    go_step3
    go_wp2
    go_step3
    go_wp2
    refine wp_loop_rounds 1 ?_
    rw [rounds_succ]
    go_wp2
    rw [Exit.noGoto_ret]
    go_ret3
    exact IsGot.of HR.out (Below.refl _ _)

set_option maxHeartbeats 2000000 in
set_option maxRecDepth 100000 in
theorem get_some (l : List Nat) (cap b off B a : Nat) (w : World) (hlen : l.length ≤ cap) (hcap : cap ≤ maxLen) (ha : a < l.length) (hl : Bts w B (some ⟨b, off, none⟩) l) :
    Calls Try.prog 74 #[.slice (some ⟨b, off, none⟩) l.length cap, .int .i64 a] w (IsGot (Mt.get l a) w) := by
  have hle : a ≤ l.length := by omega
  unfold maxLen at hcap
  have hne : ¬ cap = a := by omega
  obtain ⟨_, _, e0, _, hcell⟩ := hl.2 (by omega)
  injection e0 with e0
  injection e0 with e1 e2
  subst e1 e2
  have hlt := hl.1
  have HC := Lib.hid hcell
  have HL := Lib.hid hlt
  clear hcell hlt hl
  go_enter Try.func74, Try.ntmps74
  go_wp2
  go_step3
  go_wp2
  go_step3
  go_wp2
  go_loop [4, 7, 22] (fun x z i => ∃ (k X : Nat), k ≤ 9 ∧ a + k ≤ l.length ∧ i = .int .i64 k ∧ z = .int .i64 0 ∧ x = .int .u64 X ∧ Hid (X < 128 ^ k) ∧ Hid (Mt.rd 0 0 (l.drop a) = Mt.rd k X (l.drop (a + k)))) (fun _ _ i => l.length - (intOf i).toNat)
  case atStart => exact ⟨0, 0, by omega, by omega, rfl, rfl, rfl, by simp [Hid], rfl⟩
  case round =>
    obtain ⟨k, X, hk9, hk, rfl, rfl, rfl, HX, HR⟩ := hrel
    by_cases hin : a + k < l.length
    · have hd := List.drop_eq_getElem_cons hin
      have hcell := HC.out (a + k) _ (List.getElem?_eq_getElem hin)
      have hc := HL.out _ (List.getElem_mem hin)
      generalize hcc : l[a + k] = c at hd hcell hc
      have HD : Hid (Mt.rd 0 0 (l.drop a) = Mt.rd k X (c :: l.drop (a + k + 1))) := by unfold Hid; rw [HR.out, hd]
      rw [← Nat.add_assoc] at hcell
      have hkin : k < l.length - a := by omega
      clear hcc hd HR HC HL
      by_cases h1 : k = 9 ∧ 1 < c
      · have HE := Lib.hid (HD.out.trans (Mt.rd_form (.inl h1)))
        obtain ⟨rfl, h1c⟩ := h1
        clear HD HX
        go_wp2
        go_ret3
        exact IsGot.of (Mt.get_err hle HE.out (by decide)) (Below.refl _ _)
      · by_cases h2 : 0 < k ∧ c = 0
        · have HE := Lib.hid (HD.out.trans (Mt.rd_form (.inr h2)))
          obtain ⟨h2k, rfl⟩ := h2
          clear HD HX
          by_cases h9 : k = 9
          · subst h9
            go_wp2
            go_ret3
            exact IsGot.of (Mt.get_err hle HE.out (by decide)) (Below.refl _ _)
          · go_wp2
            go_ret3
            exact IsGot.of (Mt.get_err hle HE.out (by decide)) (Below.refl _ _)
        · by_cases h3 : c < 128
          · have HE := Lib.hid (HD.out.trans (Mt.rd_last (by omega) h3))
            clear HD
            by_cases h9 : 8 < k
            · have h1c : c < 2 := by omega
              have hc0 : 0 < c := by omega
              have HV := Lib.hid (or_step k X c hk9 HX.out hc (by omega))
              clear h1 h2
              go_wp2
              go_ret3
              rw [HV.out, Nat.mod_eq_of_lt h3]
              obtain rfl : k = 9 := by omega
              exact IsGot.of (Mt.get_ok hle HE.out) (Below.refl _ _)
            · have h9' : k < 9 := by omega
              have HV := Lib.hid (or_step k X c hk9 HX.out hc (by omega))
              by_cases hk0 : k < 1
              · clear h1 h2 h9
                go_wp2
                go_ret3
                rw [HV.out, Nat.mod_eq_of_lt h3]
                exact IsGot.of (Mt.get_ok hle HE.out) (Below.refl _ _)
              · have hc0 : 0 < c := by omega
                have hk0' : 0 < k := by omega
                clear h1 h2 hk0 h9
                go_wp2
                go_ret3
                rw [HV.out, Nat.mod_eq_of_lt h3]
                exact IsGot.of (Mt.get_ok hle HE.out) (Below.refl _ _)
          · have h9 : k < 9 := by omega
            have HE := Lib.hid (HD.out.trans (Mt.rd_on h1 (by omega)))
            have HV := Lib.hid (or_step k X c hk9 HX.out hc (by omega))
            have HX2 := Lib.hid (Mt.step_lt (c := c) HX.out)
            clear HD h1 h2 HX
            go_wp2
            all_goals
              refine ⟨⟨_, _, _, _, _, _, _, ?rel, rfl, rfl, rfl, rfl, rfl, rfl, rfl⟩, ?measure⟩
              case rel => exact ⟨k + 1, by omega, by omega, by go_num, rfl, X + c % 128 * 128 ^ k, by rw [HV.out], HX2.out, HE.out⟩
              case measure => simp [intOf]; omega
    · have hk0 : a + k = l.length := by omega
      have HE : Hid (Mt.rd 0 0 (l.drop a) = (0, 0, 4)) := by unfold Hid; rw [HR.out, hk0]; simp [Mt.rd_nil]
      have hkk : l.length - a ≤ k := by omega
      clear HR HC HL HX hk0
      go_wp2
      go_ret3
      exact IsGot.of (Mt.get_err hle HE.out (by decide)) (Below.refl _ _)

theorem get_any (v : Value) (l : List Nat) (B : Nat) (a : Int) (w : World) (h : Bv w B v l) :
    Calls Try.prog 74 #[v, .int .i64 a] w (IsGot (Mt.get l a) w) := by
  obtain ⟨A, c, rfl, h1, h2, h3, h4⟩ := h
  by_cases ha : a < 0 ∨ (l.length : Int) < a
  · exact get_arg A l c a w (by omega) ha
  · obtain ⟨k, rfl⟩ := Int.eq_ofNat_of_zero_le (show 0 ≤ a by omega)
    by_cases hk : k = l.length
    · subst hk
      exact get_end A l c w h1 h2
    · have hlt : k < l.length := by omega
      obtain ⟨b, off, rfl, _⟩ := h4.2 (by omega)
      exact get_some l c b off B k w h1 h2 hlt h4
end Go.Proofs.Ytglkhgchbnkekaa
namespace Go.Proofs.Ytglkhgchbnkekaa
open Go.RowKit
set_option linter.unusedVariables false

section
variable {P : Program} {ops : Array Oper} {md : Region.Mode} {R : World → Prop}

def FixedR (P : Program) (R : World → Prop) (v : Value) : Result Next → Prop
  | .ok (.value u) w' => u = v ∧ R w'
  | .ok .skip w' => v = undef ∧ R w'
  | .ok (.enter f args) w' => Calls P f args w' (fun e w'' => e = .returned v ∧ R w'')
  | _ => False
/-- In whatever world of R the operation yields v, and stays in R. -/
def FixedIn (P : Program) (ops : Array Oper) (R : World → Prop) (o : Oper) (v : Value) (a : Act) : Prop :=
  (Region.wanted o (yielded ops a.tmps) = true ∧ ∀ w, R w → FixedR P R v ((execOp a.eval o).run P w)) ∨ (Region.wanted o (yielded ops a.tmps) = false ∧ v = undef)
theorem FixedIn.of_same {o : Oper} {v : Value} {a a' : Act} (h : FixedIn P ops R o v a) (he : execOp a'.eval o = execOp a.eval o)
    (hw : Region.wanted o (yielded ops a'.tmps) = Region.wanted o (yielded ops a.tmps)) : FixedIn P ops R o v a' := by
  unfold FixedIn at *
  rw [he, hw]
  exact h
theorem FixedIn.wpOp {i : Nat} {o : Oper} {v : Value} {a : Act} (hi : ops[i]? = some o) (h : FixedIn P ops R o v a) {w : World} (hR : R w) {K : Act → World → Prop} {Q : Exit → Act → World → Prop}
    (hK : ∀ w', R w' → K (a.put o.dst v) w') : wpOp P ops Q i K a w := by
  unfold Go.wpOp
  simp only [hi]
  rcases h with ⟨hw, hv⟩ | ⟨hw, rfl⟩
  · rw [if_pos hw]
    refine .inl ?_
    have h := hv w hR
    unfold Oper.wp
    generalize (execOp a.eval o).run P w = r at *
    cases r with
    | ok n w' =>
      cases n <;> simp only [FixedR] at h <;> simp only [Oper.upon]
      case value u => obtain ⟨rfl, h2⟩ := h; exact hK _ h2
      case skip => obtain ⟨rfl, h2⟩ := h; exact hK _ h2
      case enter f args => exact h.mono fun e w'' ⟨he, hw⟩ => by subst he; exact hK _ hw
    | halt x w' => exact h.elim
  · simp only [hw, Bool.false_eq_true, if_false]
    exact hK _ hR

def grStep (P : Program) (ops : Array Oper) (R : World → Prop) (i : Nat) (K : Act → Prop) (a : Act) : Prop :=
  ∃ o v, ops[i]? = some o ∧ FixedIn P ops R o v a ∧ K (a.put o.dst v)
theorem grStep_mono {i : Nat} {a : Act} {K K' : Act → Prop} (h : ∀ a, K a → K' a) (hh : grStep P ops R i K a) : grStep P ops R i K' a := by
  obtain ⟨o, v, h1, h2, h3⟩ := hh
  exact ⟨o, v, h1, h2, h _ h3⟩
theorem grStep_put {j : Nat} {oi oj : Oper} {v : Value} (hj : ops[j]? = some oj) (hap : oi.apart ops oj = true)
    (hsi : ∀ cs b, oi.op ≠ .select cs b) (hsj : ∀ cs b, oj.op ≠ .select cs b) {K : Act → Prop} {a : Act}
    (hy : FixedIn P ops R oi v a) (h : grStep P ops R j K (a.put oi.dst v)) :
    grStep P ops R j (fun a' => FixedIn P ops R oi v a' ∧ K (a'.put oi.dst v)) a := by
  obtain ⟨h1, h2, h3⟩ := Oper.apart_spec hap
  obtain ⟨o, u, ho, hf, hK⟩ := h
  obtain rfl : o = oj := Option.some.inj (ho.symm.trans hj)
  refine ⟨o, u, ho, hf.of_same (execOp_put o hsj a oi.dst v h1).symm (wanted_put o a oi.dst v h1).symm, hy.of_same (execOp_put oi hsi a o.dst u h3) (wanted_put oi a o.dst u h3), ?_⟩
  rw [← Act.put_comm a v u h2]
  exact hK
def wpAnyG (P : Program) (md : Region.Mode) (ops : Array Oper) (R : World → Prop) (n : Nat) (L : Array Bool → Act → Prop) : Nat → Array Bool → Act → Prop
  | 0, listed, a => L listed a
  | f + 1, listed, a => Region.ready md ops listed ≠ [] ∧ ∀ i ∈ Region.ready md ops listed, i < n ∧ grStep P ops R i (wpAnyG P md ops R n L f (listed.setIfInBounds i true)) a
theorem wpAny_of_grown {n g : Nat} {L : Array Bool → Act → Prop} {Q : Exit → Act → World → Prop} (hL : ∀ listed a w, R w → L listed a → wpAny P md ops Q g listed a w) :
    ∀ (f : Nat) (listed : Array Bool) (a : Act) (w : World), R w → wpAnyG P md ops R n L f listed a → wpAny P md ops Q (f + g) listed a w
  | 0, listed, a, w, hR, h => by rw [Nat.zero_add]; exact hL _ _ _ hR h
  | f + 1, listed, a, w, hR, h => by
    rw [show f + 1 + g = (f + g) + 1 by omega]
    refine ⟨fun h0 => absurd h0 h.1, fun i hi => ?_⟩
    obtain ⟨o, v, ho, hf, hK⟩ := (h.2 i hi).2
    exact hf.wpOp ho hR fun w' hR' => wpAny_of_grown hL f _ _ w' hR' hK
theorem wpAnyG_first {n i : Nat} {oi : Oper} {v : Value} {L : Array Bool → Act → Prop} (hi : ops[i]? = some oi) (hsel : ∀ (j : Nat) (o : Oper) cs b, ops[j]? = some o → o.op ≠ .select cs b)
    (hs : Region.sinkB md ops n = true) (hc : Region.chainB md ops n = true) (hn : n < ops.size) (hin : i < n)
    (hdone : ∀ listed a, L listed a → ∀ j ∈ Region.ready md ops listed, n ≤ j) :
    ∀ (f : Nat) (listed : Array Bool) (a : Act), HeadInv md ops n listed →
      (∀ j oj, ops[j]? = some oj → j ≠ i → listed.getD j true = false → (∀ e ∈ oj.after, Region.binds md e = true → e.on ≠ i) → oi.apart ops oj = true) →
      i ∈ Region.ready md ops listed → FixedIn P ops R oi v a →
      wpAnyG P md ops R n L f (listed.setIfInBounds i true) (a.put oi.dst v) → wpAnyG P md ops R n L (f + 1) listed a := by
  intro f
  induction f with
  | zero =>
    intro listed a inv _ hr hy H
    have hun := (mem_ready.1 hr).1
    refine ⟨fun h => (by rw [h] at hr; cases hr), fun j hj => ?_⟩
    have hjn : j < n := by
      rcases Nat.lt_or_ge j n with h | h
      · exact h
      · exact absurd hj (tail_waits hs hc hn inv _ i rfl hin hun j h)
    refine ⟨hjn, ?_⟩
    by_cases hji : j = i
    · subst hji; exact ⟨oi, v, hi, hy, H⟩
    · have := hdone _ _ H j (ready_mono hj hji)
      omega
  | succ f ih =>
    intro listed a inv hfree hr hy H
    have hun := (mem_ready.1 hr).1
    refine ⟨fun h => (by rw [h] at hr; cases hr), fun j hj => ?_⟩
    have hjn : j < n := by
      rcases Nat.lt_or_ge j n with h | h
      · exact h
      · exact absurd hj (tail_waits hs hc hn inv _ i rfl hin hun j h)
    refine ⟨hjn, ?_⟩
    by_cases hji : j = i
    · subst hji; exact ⟨oi, v, hi, hy, H⟩
    · have h1 := (H.2 j (ready_mono hj hji)).2
      obtain ⟨hjun, oj, hoj, hall⟩ := mem_ready.1 hj
      have hnot : ∀ e ∈ oj.after, Region.binds md e = true → e.on ≠ i := fun e he hb heq => by
        have h1 := hall e he hb
        rw [heq, getD_both hun] at h1
        cases h1
      have h2 := grStep_put hoj (hfree j oj hoj hji hjun hnot) (fun cs b => hsel i oi cs b hi) (fun cs b => hsel j oj cs b hoj) hy h1
      have hfree' : ∀ k ok, ops[k]? = some ok → k ≠ i → (listed.setIfInBounds j true).getD k true = false →
          (∀ e ∈ ok.after, Region.binds md e = true → e.on ≠ i) → oi.apart ops ok = true := fun k ok hk hki hun hno => by
        refine hfree k ok hk hki ?_ hno
        by_cases hjk : j = k
        · subst hjk; exact hjun
        · rw [getD_set_ne true hjk] at hun; exact hun
      refine grStep_mono (fun a' h3 => ih (listed.setIfInBounds j true) a' (inv.set hj hjn) hfree' (ready_mono hr (Ne.symm hji)) h3.1 ?_) h2
      rw [Array.setIfInBounds_comm _ _ hji]
      exact h3.2

/-- The operations of a list, one behind the other. -/
def wpGrow (P : Program) (ops : Array Oper) (R : World → Prop) (Q : Act → Prop) : List Oper → Act → Prop
  | [], a => Q a
  | o :: rest, a => ∃ v, FixedIn P ops R o v a ∧ wpGrow P ops R Q rest (a.put o.dst v)
theorem wpAnyG_lex {n g : Nat} {Lq : Act → Prop} (hsel : Region.noSelect ops = true) (hs : Region.sinkB md ops n = true) (hc : Region.chainB md ops n = true) (hn : n < ops.size) :
    ∀ (l : List Oper) (k : Nat) (listed : Array Bool) (a : Act), (∀ j, j < l.length → l[j]? = ops[k + j]?) → k + l.length = n → HeadInv md ops n listed →
    Region.lexHead md ops g l.length k listed = true → wpGrow P ops R Lq l a →
    wpAnyG P md ops R n (fun listed' a' => Region.seqB md ops g n listed' = true ∧ Lq a') l.length listed a
  | [], k, listed, a, _, hk, _, hB, h => by
    have : k = n := by simpa using hk
    subst this
    exact ⟨by simpa [Region.lexHead] using hB, h⟩
  | o :: l, k, listed, a, hl, hk, inv, hB, h => by
    have h0 : ops[k]? = some o := by simpa using (hl 0 (by simp)).symm
    simp only [List.length_cons, Region.lexHead, Bool.and_eq_true] at hB
    obtain ⟨⟨hr, hf⟩, hB'⟩ := hB
    have hkn : k < n := by simp only [List.length_cons] at hk; omega
    have hr' : k ∈ Region.ready md ops listed := by simpa using hr
    obtain ⟨v, hy, hK⟩ := h
    exact wpAnyG_first h0 (Region.noSelect_spec hsel) hs hc hn hkn (fun listed' a' hL => seqB_ready hL.1) l.length listed a inv (Region.free_spec h0 hf) hr' hy
      (wpAnyG_lex hsel hs hc hn l (k + 1) _ _ (fun j hj => by have := hl (j + 1) (by simp; omega); simpa [Nat.add_assoc, Nat.add_comm 1 j] using this) (by simp only [List.length_cons] at hk; omega) (inv.set hr' hkn) hB' hK)
theorem wp_region_grow {id : Nat} {Q : Exit → Act → World → Prop} {a : Act} {w : World} {l : List Oper} (n : Nat) (hm : P.follows .mixedOrders = true) (hB : Region.lexTailB .any l.toArray n = true)
    (R : World → Prop) (hR : R w.drew) (h : wpGrow P l.toArray R (fun a' => ∀ w', R w' → wpList P l.toArray Q (l.drop n) a' w') (l.take n) a) : (Code.region id l.toArray true).wp P Q a w := by
  simp only [Region.lexTailB, Bool.and_eq_true, decide_eq_true_eq] at hB
  obtain ⟨⟨⟨⟨hsel, hn⟩, hs⟩, hc⟩, hlex⟩ := hB
  have hn' : n < l.length := by simpa using hn
  have htl : (l.take n).length = n := by simp; omega
  have hdl : (l.drop n).length = l.toArray.size - n := by simp
  have inv0 : HeadInv .any l.toArray n (Array.replicate l.toArray.size false) :=
    ⟨by simp, fun j oj _ hl => (by rw [getD_replicate_false] at hl; cases hl), fun t _ ht => getD_in (by simpa using ht) (getD_replicate_false _ _)⟩
  have H := wpAnyG_lex (md := .any) (g := l.toArray.size - n) hsel hs hc hn (l.take n) 0 _ a (fun j hj => by
    have hj' : j < n := by rw [htl] at hj; exact hj
    simp [hj']) (by simpa using htl) inv0 (by rw [htl]; exact hlex) h
  refine wp_region_any hm ?_
  have := wpAny_of_grown (Q := Q) (g := l.toArray.size - n) (fun listed a' w' hR' hL => by
    have := wpAny_of_seq (md := .any) (Q' := Q) (l.drop n) n listed a' w' (fun j => by simp [List.getElem?_drop]) (by rw [hdl]; exact hL.1) (hL.2 w' hR')
    rwa [hdl] at this) _ _ _ _ hR H
  rw [htl, show n + (l.toArray.size - n) = l.toArray.size by omega] at this
  exact this

/-! The steps. -/
variable {Q : Act → Prop} {a : Act} {o : Oper} {rest : List Oper}
theorem wpGrow_nil (h : Q a) : wpGrow P ops R Q [] a := h
theorem wpGrow_pure {v : Value} (hw : Region.wanted o (yielded ops a.tmps) = true) (h : ∀ w, R w → (execOp a.eval o).run P w = .ok (.value v) w) (hn : wpGrow P ops R Q rest (a.put o.dst v)) : wpGrow P ops R Q (o :: rest) a :=
  ⟨v, .inl ⟨hw, fun w hR => by rw [h w hR]; exact ⟨rfl, hR⟩⟩, hn⟩
theorem wpGrow_off (hw : Region.wanted o (yielded ops a.tmps) = false) (hn : wpGrow P ops R Q rest (a.put o.dst undef)) : wpGrow P ops R Q (o :: rest) a := ⟨undef, .inr ⟨hw, rfl⟩, hn⟩
theorem wpGrow_call {v : Value} {f : Nat} {args : Array Value} (hw : Region.wanted o (yielded ops a.tmps) = true) (h : ∀ w, (execOp a.eval o).run P w = .ok (.enter f args) w)
    (hc : ∀ w, R w → Calls P f args w (fun e w'' => e = .returned v ∧ R w'')) (hn : wpGrow P ops R Q rest (a.put o.dst v)) : wpGrow P ops R Q (o :: rest) a :=
  ⟨v, .inl ⟨hw, fun w hR => by rw [h w]; exact hc w hR⟩, hn⟩
theorem wpGrow_load_row (hw : Region.wanted o (yielded ops a.tmps) = true) (ty : TypeId) (x : Operand) (ho : o.op = .load ty x)
    (g : Nat) (hx : a.eval x = .pointer (some ⟨g, 0, none⟩)) (t : TypeId) (cs : Array Value) (fr : Nat × Nat) (d : TypeDesc) (hg : ∀ w, R w → w.heap[g]? = some (.cells cs t fr))
    (hu : P.underlying ty = some d) (hd : (match d with | .struct _ | .array _ _ => true | _ => false) = true) (hi : (P.info? ty).map (·.size) = some cs.size)
    (h : wpGrow P ops R Q rest (a.put o.dst (.agg cs))) : wpGrow P ops R Q (o :: rest) a :=
  wpGrow_pure hw (fun w hR => by
    unfold execOp
    simp only [ho, hx, Instr.loadAt, Instr.sureAddr, Sem.run_bind, Sem.run_pure, Result.andThen_ok, run_loadVar_row w g t ty cs fr d (hg w hR) hu hd hi]) h
theorem wpGrow_load_mid (hw : Region.wanted o (yielded ops a.tmps) = true) (ty : TypeId) (x : Operand) (ho : o.op = .load ty x)
    (b off : Nat) (hx : a.eval x = .pointer (some ⟨b, off, none⟩)) (cs : Array Value) (d : TypeDesc) (hc : ∀ w, R w → w.rangeAt b off cs.toList)
    (hu : P.underlying ty = some d) (hd : d.isRow = true) (hi : (P.info? ty).map (·.size) = some cs.size)
    (h : wpGrow P ops R Q rest (a.put o.dst (.agg cs))) : wpGrow P ops R Q (o :: rest) a :=
  wpGrow_pure hw (fun w hR => by
    unfold execOp
    simp only [ho, hx, Instr.loadAt, Instr.sureAddr, Sem.run_bind, Sem.run_pure, Result.andThen_ok, run_loadVar_mid w b off ty cs.toList d (hc w hR) hu hd (by simpa using hi)]) h
end
end Go.Proofs.Ytglkhgchbnkekaa
