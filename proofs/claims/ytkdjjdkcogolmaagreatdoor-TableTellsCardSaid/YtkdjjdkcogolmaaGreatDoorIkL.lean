/-
  The forms of internal keys as mathematics: what is put is taken; cut short it says nothing; what is taken is put as it stood.
-/
import Derived.Test.YtkdjjdkcogolmaaGreatDoorIk5
namespace Go.Proofs.YtkdjjdkcogolmaaGreatDoor
set_option maxRecDepth 100000
open Go.RowKit Go.Shelf

theorem right_parts {s : ByteArray} {q k : Nat} (h : rightB s q k = true) : 0 < s.size ∧ s.size ≤ 64 ∧ (q : Int) ≤ 72057594037927935 ∧ k ≤ 1 := by
  unfold rightB at h
  simpa [and_assoc] using h
theorem keyTake_form {s : ByteArray} {q k : Nat} (h : rightB s q k = true) (r : List UInt8) : keyTake (formL s q k ++ r) = some (s, q, k, r) := by
  obtain ⟨h0, h1, h2, h3⟩ := right_parts h
  have e1 : textTake (formL s q k ++ r) 64 = some (s.data.toList, shortL (2 * q + k) ++ r) := by
    unfold formL
    rw [List.append_assoc, textTake_text s (by omega), if_pos (by omega)]
  have e2 := takeN_short (2 * q + k) (by omega) r
  unfold keyTake
  simp only [e1, e2, string_eta]
  rw [show (2 * q + k) / 2 = q by omega, show (2 * q + k) % 2 = k by omega, if_pos h]
  simp
theorem keyTake_cut {s : ByteArray} {q k : Nat} (h : rightB s q k = true) {i : Nat} (hi : i < (formL s q k).length) : keyTake ((formL s q k).take i) = none := by
  obtain ⟨h0, h1, h2, h3⟩ := right_parts h
  unfold formL at hi ⊢
  rw [List.length_append] at hi
  unfold keyTake
  rcases Nat.lt_or_ge i (textL s).length with hlt | hge
  · rw [List.take_append_of_le_length (Nat.le_of_lt hlt), textTake_cut s (by omega) hlt]
  · have e : (textL s ++ shortL (2 * q + k)).take i = textL s ++ (shortL (2 * q + k)).take (i - (textL s).length) := by
      rw [List.take_append, List.take_of_length_le hge]
    rw [e, textTake_text s (by omega), if_pos (by omega)]
    simp only
    rw [shortL_cut (by omega) (by omega)]
theorem keyTake_back {l r : List UInt8} {s : ByteArray} {q k : Nat} (h : keyTake l = some (s, q, k, r)) : rightB s q k = true ∧ formL s q k ++ r = l ∧ r.length ≤ l.length := by
  unfold keyTake at h
  split at h
  · cases h
  · next a b hab =>
    split at h
    · cases h
    · next x m hx =>
      split at h
      · next hr =>
        simp only [Option.some.injEq, Prod.mk.injEq] at h
        obtain ⟨rfl, rfl, rfl, rfl⟩ := h
        obtain ⟨e1, _⟩ := text_put hab
        have e2 := take_put hx
        have hf : formL ⟨a.toArray⟩ (x / 2) (x % 2) ++ b.drop m = l := by
          unfold formL
          rw [show 2 * (x / 2) + x % 2 = x by omega, List.append_assoc, e2, e1]
        refine ⟨hr, hf, ?_⟩
        rw [← hf]; simp
      · cases h
/-- What Take hands on, in one form. -/
structure KeyR (l : List UInt8) (s : ByteArray) (q k : Nat) (r : List UInt8) (ok : Bool) : Prop where
  yes : ok = true → keyTake l = some (s, q, k, r)
  no : ok = false → keyTake l = none ∧ s = ⟨#[]⟩ ∧ q = 0 ∧ k = 0 ∧ r = []
theorem KeyPost.form {w : World} {l : List UInt8} {e : Ending} {w' : World} (h : KeyPost w l e w') : ∃ s q k r ok A n c, KeyR l s q k r ok ∧
    e = .returned (.tuple #[.agg #[.string s, .int .u64 (q : Int), .int .u8 (k : Int)], .slice A n c, .bool ok]) ∧ Fr w' w.heap.size 5 A n c (bv r) ∧ Below w.heap.size w w' := by
  unfold KeyPost at h
  split at h
  · next s q k r hk =>
    obtain ⟨A, n, c, he, hf, hb⟩ := h
    exact ⟨s, q, k, r, true, A, n, c, ⟨fun _ => hk, fun e => (by cases e)⟩, he, hf, hb⟩
  · next hk =>
    obtain ⟨A, n, c, he, hf, hb⟩ := h
    exact ⟨⟨#[]⟩, 0, 0, [], false, A, n, c, ⟨fun e => (by cases e), fun _ => ⟨hk, rfl, rfl, rfl, rfl⟩⟩, he, hf, hb⟩
theorem formL_len {s : ByteArray} {q k : Nat} (h : rightB s q k = true) : (formL s q k).length ≤ 90 := by
  obtain ⟨h0, h1, h2, h3⟩ := right_parts h
  unfold formL
  rw [List.length_append]
  have := textL_le s; have := shortL_len (2 * q + k); omega
end Go.Proofs.YtkdjjdkcogolmaaGreatDoor
