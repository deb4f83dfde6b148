/- A load of a piece is read as that piece, and as no node. No conditions. -/
import Derived.Test.YtilmlegkkgiahaaNdReadP
namespace Go.Proofs.Ytilmlegkkgiahaa
open Go.RowKit Go.Lib
set_option linter.unusedVariables false

theorem pPie_back {N : Nat} {d z : List UInt8} (hN : N < 65536) (hd : d.length < 65536) : pPie (3 :: (le2 N ++ (le2 d.length ++ (d ++ z)))) = some ((d, (N : Int)), z) := by
  unfold pPie
  simp only [p1, Option.bind_some]
  rw [if_pos (show (3 : UInt8).toNat = 3 from rfl), le2_back hN]
  simp only [Option.bind_some]
  rw [le2_back hd]
  simp only [Option.bind_some]
  rw [tk_append]
  rfl
theorem opN_piece {d : List UInt8} {x : Int} (h : pieceOk d x = true) : opN (piece d x) = some (d, x) := by
  obtain ⟨h1, h2, h3, h4⟩ := piece_parts h
  obtain ⟨N, rfl⟩ : ∃ N : Nat, x = (N : Int) := ⟨x.toNat, by omega⟩
  unfold opN
  rw [if_pos (piece_len h)]
  have e : piece d (N : Int) = 3 :: (le2 N ++ (le2 d.length ++ (d ++ List.replicate (508 - (3 :: (le2 N ++ (le2 d.length ++ d))).length) 0))) := by
    unfold piece padTo
    simp
  rw [e]
  unfold pOpn
  rw [pPie_back (by omega) (by omega)]
  simp only [Option.bind_some]
  rw [if_pos h]
  simp
theorem decN_piece {d : List UInt8} {x : Int} (h : pieceOk d x = true) : decN (piece d x) = none := by
  cases e : decN (piece d x) with
  | none => rfl
  | some n =>
    obtain ⟨hr, hl⟩ := decN_sound e
    exact absurd hl.symm (piece_no_node h hr)
theorem pPie_sound {l r d : List UInt8} {x : Int} (h : pPie l = some ((d, x), r)) : ∃ N : Nat, x = (N : Int) ∧ l = 3 :: (le2 N ++ (le2 d.length ++ (d ++ r))) := by
  obtain ⟨⟨t, r0⟩, h1, h2⟩ := bind_some_of h
  simp only at h2
  split at h2
  · rename_i ht
    subst ht
    obtain ⟨⟨N, r1⟩, h3, h4⟩ := bind_some_of h2
    obtain ⟨⟨n, r2⟩, h5, h6⟩ := bind_some_of h4
    obtain ⟨⟨d', r3⟩, h7, h8⟩ := map_some_of h6
    simp only [Prod.mk.injEq] at h8
    obtain ⟨⟨rfl, rfl⟩, rfl⟩ := h8
    simp only at h5 h7
    have e := tk_len h7
    refine ⟨N, rfl, ?_⟩
    rw [p1_sound h1, p2_sound h3, p2_sound h5, tk_sound h7, e]
    rfl
  · cases h2
theorem opN_sound {l d : List UInt8} {x : Int} (h : opN l = some (d, x)) : pieceOk d x = true ∧ piece d x = l := by
  unfold opN at h
  split at h
  · rename_i hl
    obtain ⟨⟨⟨d', x'⟩, r⟩, h1, h2⟩ := bind_some_of h
    simp only at h2
    split at h2
    · rename_i hz
      cases h2
      obtain ⟨⟨⟨d2, x2⟩, r2⟩, h3, h4⟩ := bind_some_of h1
      simp only at h4
      split at h4
      · rename_i he
        cases h4
        obtain ⟨N, rfl, e⟩ := pPie_sound h3
        refine ⟨he, ?_⟩
        have hlen : 508 - (3 :: (le2 N ++ (le2 d.length ++ d))).length = r.length := by rw [e] at hl; simp [le2_len] at hl ⊢; omega
        unfold piece padTo
        rw [Int.toNat_natCast, hlen, ← all_noughts hz, e]
        simp
      · cases h4
    · cases h2
  · cases h
end Go.Proofs.Ytilmlegkkgiahaa
