/-
  Kinds of maps: keys that are integers or pairs of them (an array of two), elements that are integers.
-/
import Derived.Test.YtgkmlcghkkpgpaaMp
import Derived.WideKeyPair
import Derived.DeepKeys4
namespace Go.Proofs.Ytgkmlcghkkpgpaa
open Go.RowKit Go.Maps
set_option linter.unusedVariables false

/-- What an integer reads as. -/
def readInt (q : IntKind) : Value → Option (DataW Unit × List MemPlace)
  | .int q' a => if q' = q then some (.lit (.int q a), []) else none
  | _ => none
theorem readInt_val (q : IntKind) (a : Int) : readInt q (.int q a) = some (.lit (.int q a), []) := by simp [readInt]
theorem readInt_inv (q : IntKind) (v : Value) (a : Int) (ps : List MemPlace) (h : readInt q v = some (.lit (.int q a), ps)) : v = .int q a := by
  cases v with
  | int q' b =>
    simp only [readInt] at h
    split at h
    · rename_i e
      subst e
      simp at h
      rw [h.1]
    · cases h
  | _ => simp [readInt] at h
section
variable {P : Program}
/-- map[int kind]int kind. -/
def mpInt (t k e : TypeId) (qk qe : IntKind) (ht : P.underlying t = some (.map k e)) (hk : P.underlying k = some (.int qk)) (hz : ∀ w, (zeroValue e).run P w = .ok (.int qe 0) w) : MpK P Int Int where
  t := t
  k := k
  e := e
  key := fun x => .int qk x
  lit := fun x => .int qk x
  ok := fun x => (Lit.int qk x).wf = true
  val := fun y => .int qe y
  z := 0
  read := readInt qe
  dat := fun y => .lit (.int qe y)
  keyed := int_keyed hk
  under := ht
  law := fun x hx => keyOf_int_mk hk hx
  inj := fun x y h => by injection h
  zero := hz
  readVal := readInt_val qe
  readInv := readInt_inv qe
/-- map[[2]int kind]int kind. -/
def mpPair (t k ek e : TypeId) (qk qe : IntKind) (ht : P.underlying t = some (.map k e)) (A : WideMaps.ArrKey P k ek 2) (hek : P.underlying ek = some (.int qk)) (hsz : ∃ m, P.types.size = m + 1) (hlaw : WideMaps.KeyLaw P k) (hz : ∀ w, (zeroValue e).run P w = .ok (.int qe 0) w) : MpK P (Int × Int) Int where
  t := t
  k := k
  e := e
  key := fun x => .agg #[.int qk x.1, .int qk x.2]
  lit := fun x => .string (keyBytes [.int qk x.1, .int qk x.2])
  ok := fun x => (Lit.int qk x.1).wf = true ∧ (Lit.int qk x.2).wf = true
  val := fun y => .int qe y
  z := 0
  read := readInt qe
  dat := fun y => .lit (.int qe y)
  keyed := Keyed.of_law hlaw
  under := ht
  law := fun x hx => WideMaps.keyOf_pair A hek hsz hx.1 hx.2
  inj := fun x y h => by
    injection h with h
    simp at h
    exact Prod.ext h.1 h.2
  zero := hz
  readVal := readInt_val qe
  readInv := readInt_inv qe
end
end Go.Proofs.Ytgkmlcghkkpgpaa
