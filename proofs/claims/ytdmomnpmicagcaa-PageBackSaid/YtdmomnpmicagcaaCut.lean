/-
  A cut of a slice of bytes.
-/
import Derived.Test.YtdmomnpmicagcaaApp
namespace Go.Proofs.Ytdmomnpmicagcaa
theorem Bv.cut_ {w : World} {B b off n c : Nat} {l : List Nat} (h : Bv w B (.slice (some ⟨b, off, none⟩) n c) l) {k m : Nat} (hk : k + m ≤ l.length) :
    Bv w B (.slice (some ⟨b, off + k, none⟩) m (c - k)) ((l.drop k).take m) := by
  obtain ⟨A', c', e, h1, h2, h3, h4, h5⟩ := h
  injection e with e1 e2 e3
  subst e1 e3
  have hlen : ((l.drop k).take m).length = m := by rw [List.length_take, List.length_drop]; omega
  refine ⟨some ⟨b, off + k, none⟩, c - k, by rw [hlen], by omega, by omega, by simp, fun x hx => h4 x (List.mem_of_mem_drop (List.mem_of_mem_take hx)), fun hp => ?_⟩
  obtain ⟨b', off', e, hb, hc⟩ := h5 (by omega)
  injection e with e
  injection e with e4 e5
  subst e4 e5
  refine ⟨b, off + k, rfl, hb, fun j u hj => ?_⟩
  have h6 := hc (k + j) u (by
    rw [List.getElem?_take] at hj
    split at hj
    · rw [List.getElem?_drop] at hj; exact hj
    · cases hj)
  rw [← h6]
  congr 2
  omega
end Go.Proofs.Ytdmomnpmicagcaa
