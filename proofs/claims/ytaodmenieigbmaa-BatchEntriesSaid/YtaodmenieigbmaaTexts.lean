/-
  Plain mathematics of the forms of texts.
-/
import Derived.Test.YtaodmenieigbmaaRefs3
import Derived.Test.YtaodmenieigbmaaShort3
namespace Go.Proofs.Ytaodmenieigbmaa

theorem size_list (s : ByteArray) : s.data.toList.length = s.size := by rw [Array.length_toList]; rfl
theorem string_eta (s : ByteArray) : (⟨s.data.toList.toArray⟩ : ByteArray) = s := by simp

theorem takeN_prefix {l p : List UInt8} {v m : Nat} (h : takeN p = some (v, m)) (hp : p <+: l) : takeN l = some (v, m) := by
  obtain ⟨h1, h2, h3⟩ := (takeN_iff _ _ _).1 h
  exact (takeN_iff _ _ _).2 ⟨h1, h2, h3.trans hp⟩

theorem takeN_text (s : ByteArray) (h : s.size < 2 ^ 64) (r : List UInt8) : takeN (textL s ++ r) = some (s.size, (shortL s.size).length) := by
  unfold textL
  rw [List.append_assoc]
  exact takeN_short s.size h _

theorem textTake_text (s : ByteArray) (h : s.size < 2 ^ 64) (r : List UInt8) (most : Int) : textTake (textL s ++ r) most = if (s.size : Int) ≤ most then some (s.data.toList, r) else none := by
  unfold textTake
  rw [takeN_text s h]
  have hd : (textL s ++ r).drop (shortL s.size).length = s.data.toList ++ r := by
    unfold textL
    rw [List.append_assoc, List.drop_left]
  simp only [hd]
  have hl := size_list s
  by_cases hm : (s.size : Int) ≤ most
  · rw [if_pos hm, if_pos ⟨by omega, hm, by rw [List.length_append]; omega⟩]
    rw [← hl, List.take_left, List.drop_left]
  · rw [if_neg hm, if_neg (fun h => hm h.2.1)]

theorem textTake_cut (s : ByteArray) (h : s.size < 2 ^ 64) {k : Nat} (hk : k < (textL s).length) (most : Int) : textTake ((textL s).take k) most = none := by
  unfold textTake
  cases hv : takeN ((textL s).take k) with
  | none => rfl
  | some x =>
    obtain ⟨v, m⟩ := x
    have h1 := takeN_prefix hv (List.take_prefix k (textL s))
    have h2 := takeN_text s h []
    rw [List.append_nil, h1] at h2
    simp at h2
    obtain ⟨rfl, rfl⟩ := h2
    have hl : (textL s).length = (shortL s.size).length + s.size := by unfold textL; rw [List.length_append, size_list]
    have hle := (takeN_le hv).1
    simp only []
    rw [if_neg]
    rintro ⟨_, _, h3⟩
    simp at h3 hle
    omega
theorem textL_len (s : ByteArray) : (textL s).length = (shortL s.size).length + s.size := by unfold textL; rw [List.length_append, size_list]
end Go.Proofs.Ytaodmenieigbmaa
