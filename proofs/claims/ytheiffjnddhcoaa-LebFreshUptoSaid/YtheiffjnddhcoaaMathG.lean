/-
  Plain mathematics of chapter 1 (leb): rows and lists that are put are got.
-/
import Derived.Test.YtheiffjnddhcoaaPutListI
import Derived.Test.YtheiffjnddhcoaaMathB
import Derived.Test.YtheiffjnddhcoaaMathF
namespace Go.Proofs.Ytheiffjnddhcoaa

theorem getRow_put (p r q : List Nat) (hr : Mt.B64 r.length) : Mt.getRow (p ++ putRow r ++ q) (p.length : Nat) (r.length : Nat) = (r, p.length + (putRow r).length, 0) := by
  have h1 := Mt.get_put hr p (r ++ q)
  have e : p ++ Mt.put r.length ++ (r ++ q) = p ++ putRow r ++ q := by simp [putRow]
  rw [e] at h1
  have h2 := Mt.count_ok (most := ((r.length : Nat) : Int)) h1 (by omega)
  rw [Mt.getRow_ok h2 (by simp [putRow]; omega)]
  have e2 : (p ++ putRow r ++ q).drop (p.length + (Mt.put r.length).length) = r ++ q := by
    rw [← e]
    have : p.length + (Mt.put r.length).length = (p ++ Mt.put r.length).length := by simp
    rw [this, List.drop_left]
  rw [e2, List.take_left]
  simp [putRow, Nat.add_assoc]

theorem puts_cons (x : Nat) (r : List Nat) : puts (x :: r) = Mt.put x ++ puts r := by simp [puts]
theorem gets_put (l : List Nat) : ∀ (p q : List Nat), (∀ x ∈ l, Mt.B64 x) → Mt.gets l.length (p ++ puts l ++ q) p.length = (l, p.length + (puts l).length, 0) := by
  induction l with
  | nil => intro p q _; simp [Mt.gets, puts]
  | cons x r ih =>
    intro p q h
    have h1 := Mt.get_put (h x (by simp)) p (puts r ++ q)
    have e : p ++ Mt.put x ++ (puts r ++ q) = p ++ puts (x :: r) ++ q := by simp [puts_cons]
    rw [e] at h1
    show Mt.gets (r.length + 1) _ _ = _
    rw [Mt.gets_on h1]
    have h2 := ih (p ++ Mt.put x) q (fun y hy => h y (by simp [hy]))
    have e2 : p ++ Mt.put x ++ puts r ++ q = p ++ puts (x :: r) ++ q := by simp [puts_cons]
    rw [e2, List.length_append] at h2
    rw [h2, Mt.prep_ok, puts_cons, List.length_append, Nat.add_assoc]
    rfl
theorem getList_put (p l : List Nat) (hl : Mt.B64 l.length) (hx : ∀ x ∈ l, Mt.B64 x) : Mt.getList (p ++ putList l) (p.length : Nat) (l.length : Nat) = (l, p.length + (putList l).length, 0) := by
  have h1 := Mt.get_put hl p (puts l)
  have e : p ++ Mt.put l.length ++ puts l = p ++ putList l := by simp [putList]
  rw [e] at h1
  have h2 := Mt.count_ok (most := ((l.length : Nat) : Int)) h1 (by omega)
  rw [Mt.getList_ok h2]
  have h3 := gets_put l (p ++ Mt.put l.length) [] hx
  rw [List.append_nil, e, List.length_append] at h3
  rw [h3]
  simp [putList, Nat.add_assoc]
theorem Wv.lt_ {w : World} {B : Nat} {v : Value} {l : List Nat} (h : Wv w B v l) : ∀ x ∈ l, Mt.B64 x := by obtain ⟨_, _, _, _, _, _, h, _⟩ := h; exact h
end Go.Proofs.Ytheiffjnddhcoaa
