/- What 'both' does, whatever the act. Condition: fewer than a million writes are pending. -/
import Derived.Test.YtfgcjcffplglhaaDkBothW
import Derived.Test.YtfgcjcffplglhaaDkBothM
namespace Go.Proofs.Ytfgcjcffplglhaa
open Go.RowKit
set_option linter.unusedVariables false
set_option maxRecDepth 20000

/-- What an act makes of a disk. -/
def Dk.act (d : Dk) (x : Opx) : Dk :=
  if x.kind = 0 then d else if x.kind = 1 then d.wr x.n (pageM x.fill x.b (if x.long then 513 else 512)) else if x.kind = 2 then d.sy else if x.kind = 3 then d.armed x.n else if x.kind = 4 then d.mended x.keep x.torn x.cut else d
theorem stepped_pend (d : Dk) : d.stepped.pend = d.pend := by unfold Dk.stepped; split <;> (try split) <;> rfl
theorem Dk.wr_len (d : Dk) (n : Int) (b : List UInt8) : (d.wr n b).pend.length ≤ d.pend.length + 1 ∧ (d.wr n b).pages = d.pages := by
  unfold Dk.wr
  split
  · exact ⟨by omega, rfl⟩
  · split
    · exact ⟨by omega, rfl⟩
    · split
      · exact ⟨by rw [stepped_pend]; omega, Dk.stepped_pages d⟩
      · refine ⟨?_, Dk.stepped_pages d⟩
        show (d.stepped.pend ++ [(n, b)]).length ≤ _
        rw [List.length_append, stepped_pend]
        simp
theorem Dk.sy_len (d : Dk) : d.sy.pend.length ≤ d.pend.length ∧ d.sy.pages = d.pages := by
  unfold Dk.sy
  split
  · exact ⟨by omega, rfl⟩
  · split
    · exact ⟨by rw [stepped_pend]; omega, Dk.stepped_pages d⟩
    · exact ⟨Nat.zero_le _, Dk.stepped_pages d⟩
theorem Dk.act_len (d : Dk) (x : Opx) : (d.act x).pend.length ≤ d.pend.length + 1 ∧ (d.act x).pages = d.pages := by
  unfold Dk.act
  split
  · exact ⟨by omega, rfl⟩
  · split
    · exact Dk.wr_len d _ _
    · split
      · have := Dk.sy_len d
        exact ⟨by omega, this.2⟩
      · split
        · exact ⟨by show d.pend.length ≤ _; omega, rfl⟩
        · split
          · exact ⟨Nat.zero_le _, rfl⟩
          · exact ⟨by omega, rfl⟩
theorem both_all {w0 w : World} {db rb : Nat} {d : Dk} (x : Opx) (bp kp : Option Addr) (bc kc : Nat) (h : T2 w0.heap.size w0 w db rb d d (fun _ => False)) (hm : d.pend.length < 1000000) (hby : Byts w0 bp x.b) (hbi : Bits w0 kp x.keep) (hkl : x.keep.length ≤ 140737488351232) (hkc : x.keep.length ≤ kc) (hn : x.n ≤ 9223372036854775807) :
    Calls Try.prog 15 #[.pointer (some ⟨db, 0, none⟩), .pointer (some ⟨rb, 0, none⟩), .agg #[.int .i64 x.kind, .int .i64 x.n, .int .u8 (x.fill.toNat : Int), .slice bp x.b.length bc, .bool x.long, .slice kp x.keep.length kc, .int .i64 x.torn, .int .i64 x.cut]] w fun e w' => e = .returned (.bool true) ∧ T2 w0.heap.size w0 w' db rb (d.act x) (d.act x) (fun _ => False) := by
  unfold Dk.act
  by_cases k0 : x.kind = 0
  · rw [if_pos k0, k0]
    by_cases hr : d.reach x.n = 0
    · exact both_read x.n x.torn x.cut x.fill x.b x.long x.keep bp kp bc kc h hm hr
    · exact both_readBad x.n x.torn x.cut x.fill x.b x.long x.keep bp kp bc kc h hm hr
  · rw [if_neg k0]
    by_cases k1 : x.kind = 1
    · rw [if_pos k1, k1]
      cases hl : x.long
      · exact both_write512 x.n x.torn x.cut x.fill x.b x.keep bp kp bc kc h hm hby
      · exact both_write513 x.n x.torn x.cut x.fill x.b x.keep bp kp bc kc h hm hby
    · rw [if_neg k1]
      by_cases k2 : x.kind = 2
      · rw [if_pos k2, k2]
        exact both_sync x.n x.torn x.cut x.fill x.b x.long x.keep bp kp bc kc h hm
      · rw [if_neg k2]
        by_cases k3 : x.kind = 3
        · rw [if_pos k3, k3]
          exact both_arm x.n x.torn x.cut x.fill x.b x.long x.keep bp kp bc kc h hm hn
        · rw [if_neg k3]
          by_cases k4 : x.kind = 4
          · rw [if_pos k4, k4]
            by_cases he : x.keep = []
            · rw [he] at hbi hkl hkc ⊢
              exact both_mend0 x.n x.torn x.cut x.fill x.b x.long bp kp bc kc h hm hbi hkl hkc
            · exact both_mend x.n x.torn x.cut x.fill x.b x.long x.keep bp kp bc kc h hm he hbi hkl hkc
          · rw [if_neg k4]
            exact both_other x.n x.torn x.cut x.fill x.b x.long x.keep bp kp bc kc h hm x.kind k0 k1 k2 k3 k4
/-- A disk in protected blocks is as it was. -/
theorem PD.kept {s : Nat} {Z F : Nat → Prop} {w w' : World} {cb : Nat} {d : Dk} (P : PD w cb F d) (hF : ∀ k, F k → Z k) (K : Kept (old s Z) w w') : PD w' cb F d := by
  obtain ⟨lb, nb, pv, P, h⟩ := P
  exact ⟨lb, nb, pv, P.same (fun k hk => K.2 k (Or.inr (hF k (h k hk)))), h⟩
end Go.Proofs.Ytfgcjcffplglhaa
