/- What the document's number and value answer; a page and a head's load, as the document writes them. No conditions but the sizes. -/
import Derived.Test.YtnecigbncggogaaPgRefA
import Derived.Test.YtnecigbncggogaaPgSeal
import Derived.Lib.SlBytesConst
namespace Go.Proofs.Ytnecigbncggogaa
open Go.RowKit
set_option linter.unusedVariables false
set_option maxRecDepth 20000

theorem OwnB.drew {w : World} {base : Nat} {v : Value} {l : List UInt8} (o : OwnB w base v l) : OwnB w.drew base v l := o
theorem OwnB.alloc {w : World} {base : Nat} {v : Value} {l : List UInt8} (o : OwnB w base v l) (x : Obj) : OwnB (w.alloc x) base v l := o.below ((Below.refl _ _).alloc (Nat.le_refl _) x)
theorem OwnB.lt {w : World} {base : Nat} {v : Value} {l : List UInt8} (o : OwnB w base v l) : ∀ k, v.ownBlock = some k → base ≤ k := fun k hk => (World.ownsRow.lt o k hk).1
theorem byte_new (w : World) (c : UInt8) (n : Int) (h : n = (c.toNat : Int)) : Byts (w.alloc (.cells #[.int .u8 n] 5)) (some ⟨w.heap.size, 0, none⟩) [c] := by
  subst h
  exact (Blk.new w (bcells [c]) 5).byts'
set_option maxHeartbeats 2000000 in
theorem rnumber_any (N k : Nat) (w : World) (hk : k ≤ 8) (hN : N < 18446744073709551616) :
    Calls Try.prog 65 #[.int .u64 (N : Int), .int .i64 (k : Int)] w fun e w' => ∃ v, e = .returned v ∧ OwnB w' w.heap.size v (le k N) ∧ Below w.heap.size w w' := by
  have HL := hid (le_len k N)
  go_enter Try.func65, Try.ntmps65
  go_wp2
  go_loopw [5, 6] (fun v i wr => ∃ m : Nat, m ≤ k ∧ i = .int .i64 (m : Int) ∧ OwnB wr w.heap.size v ((le k N).take m) ∧ Below w.heap.size w wr) (fun _ i _ => k - (RowKit.intOf i).toNat)
  case atStart => exact ⟨0, Nat.zero_le _, rfl, World.ownsRow_nil _ _ _ _, Below.refl _ _⟩
  case round =>
    obtain ⟨m, hm, rfl, O, B⟩ := hrel
    have HO := hid O
    have HB := hid B
    by_cases hx : m < k
    · have HT := hid (le_take_succ k N m hx)
      have hzz : (UInt8.ofNat (N / 256 ^ m % 256)).toNat = N / 256 ^ m % 256 := by rw [UInt8.toNat_ofNat']; omega
      have HZ := hid hzz
      generalize UInt8.ofNat (N / 256 ^ m % 256) = z at *
      have HLn : Hid (((le k N).take m).length ≤ 8) := by show _ ≤ _; rw [List.length_take, HL.out]; omega
      have HLt : Hid (((le k N).take m ++ [z]) = (le k N).take (m + 1)) := HT.out.symm
      generalize (le k N).take m = pre at *
      have HSz := hid B.size
      clear O B hzz
      have hk8 : m = 0 ∨ m = 1 ∨ m = 2 ∨ m = 3 ∨ m = 4 ∨ m = 5 ∨ m = 6 ∨ m = 7 := by omega
      rcases hk8 with rfl | rfl | rfl | rfl | rfl | rfl | rfl | rfl
      all_goals
        have hz := HZ.out
        simp only [Nat.reducePow, Nat.div_one] at hz
        go_wp2_with (first
          | (at_builtin; go_loud (refine appBlk w.heap.size _ _ _ pre [z] rfl rfl rfl _ _ _ _ rfl ?hn ?hO ?hX ?hm ?hl ?hb ?_; (case hn => rfl); (case hO => exact HO.out.alloc _); (case hX => exact byte_new _ z _ (by omega)); (case hm => simp); (case hl => have := HLn.out; simp; omega); (case hb => have := HSz.out; simp; omega); intro v' w' O' G' A'; have HO' := hid O'; have HG' := hid G'; clear O' G' A'; try go_frame))
          | fail)
        go_roundw
        case rel => exact ⟨_, hx, rfl, by rw [HLt.out] at HO'; exact HO'.out, below_own (HB.out.alloc HSz.out _) HG'.out (by have := HSz.out; simp; omega) HO.out.lt⟩
        case measure => simp [RowKit.intOf]; omega
    · obtain rfl : m = k := by omega
      rw [List.take_of_length_le (by rw [HL.out]; exact Nat.le_refl _)] at O
      have HO2 := hid O
      clear O B HO
      go_wp2
      go_ret
      exact ⟨_, rfl, HO2.out, HB.out⟩
set_option maxHeartbeats 2000000 in
theorem rvalue_any (g off c : Nat) (l : List UInt8) (w : World) (hl : l.length ≤ 8) (h0 : 0 < l.length) (h : Byts w (some ⟨g, off, none⟩) l) :
    Calls Try.prog 82 #[.slice (some ⟨g, off, none⟩) l.length c] w fun e w' => e = .returned (.int .u64 (unle l : Int)) ∧ w' = w := by
  have HB := hid h
  clear h
  go_enter Try.func82, Try.ntmps82
  go_wp2
  go_loopw [3, 4] (fun s i wr => wr = w ∧ ∃ j : Nat, j ≤ l.length ∧ i = .int .i64 ((j : Int) - 1) ∧ s = .int .u64 (unle (l.drop j) : Int)) (fun _ i _ => (RowKit.intOf i + 1).toNat)
  case atStart => exact ⟨rfl, l.length, Nat.le_refl _, rfl, by rw [List.drop_length]; rfl⟩
  case round =>
    obtain ⟨rfl, j, hj, rfl, rfl⟩ := hrel
    by_cases hx : 0 < j
    · obtain ⟨m, rfl⟩ : ∃ m, j = m + 1 := ⟨j - 1, by omega⟩
      have hck := HB.out.is m (by omega)
      have HD := hid (unle_drop l m (by omega))
      have hS := unle_lt (l.drop (m + 1))
      have hS2 : 256 ^ (l.drop (m + 1)).length ≤ 256 ^ 7 := Nat.pow_le_pow_right (by decide) (by rw [List.length_drop]; omega)
      have hS3 : (256 : Nat) ^ 7 = 72057594037927936 := by decide
      have hS4 : unle (l.drop (m + 1)) < 72057594037927936 := by omega
      clear hS hS2 hS3
      generalize unle (l.drop (m + 1)) = S at *
      generalize l[m] = z at *
      have hz := z.toNat_lt
      have hz2 : z.toNat < 256 := by omega
      clear hz
      have hgt : ¬ (((m + 1 : Nat) : Int) - 1 < 0) := by omega
      have hsim : ((m + 1 : Nat) : Int) - 1 = (m : Int) := by omega
      rw [hsim] at *
      go_wp2
      go_roundw
      case rel => exact ⟨trivial, m, by omega, rfl, u64_eq (by rw [HD.out]; push_cast; omega)⟩
      case measure => simp [RowKit.intOf]
    · obtain rfl : j = 0 := by omega
      rw [List.drop_zero]
      go_wp2
      go_ret
      exact ⟨rfl, rfl⟩
/-- A slice that is owned, in one form. -/
theorem OwnB.is {w : World} {base : Nat} {v : Value} {l : List UInt8} (o : OwnB w base v l) (hl : 0 < l.length) : ∃ g c, v = .slice (some ⟨g, 0, none⟩) l.length c ∧ base ≤ g ∧ g < w.heap.size ∧ Byts w (some ⟨g, 0, none⟩) l := by
  obtain ⟨g, c, rfl, hb, _⟩ := own_is' o hl
  exact ⟨g, c, rfl, hb, (World.ownsRow.lt o g rfl).2, own_bts o⟩
theorem Byts.grown {w w' : World} {g off : Nat} {l : List UInt8} {row : Option Nat} (h : Byts w (some ⟨g, off, none⟩) l) (hg : g < w.heap.size) (G : w.grownBy w' row) (hn : row ≠ some g) : Byts w' (some ⟨g, off, none⟩) l :=
  h.same (fun b o e => by
    simp only [Option.some.injEq, Addr.mk.injEq, and_true] at e
    rw [← e.1]
    exact G.block g hg (fun q => hn q.symm))
set_option maxHeartbeats 2000000 in
theorem rpage_any (g off c : Nat) (l : List UInt8) (w : World) (hl : l.length = 508) (h : Byts w (some ⟨g, off, none⟩) l) :
    Calls Try.prog 31 #[.slice (some ⟨g, off, none⟩) 508 c] w fun e w' => ∃ q cq, e = .returned (.slice (some ⟨q, 0, none⟩) 512 cq) ∧ Byts w' (some ⟨q, 0, none⟩) (sealed l) ∧ Below w.heap.size w w' ∧ w.heap.size ≤ q := by
  have hgl : g < w.heap.size := cell_lt (h.is 0 (by omega))
  have HO := hid (own_new w)
  have HY := hid (h.alloc (.cells #[] 5))
  have HB0 : Hid (Below w.heap.size w (w.alloc (.cells #[] 5))) := (Below.refl _ _).alloc (Nat.le_refl _) _
  have HNE : Hid ((Value.slice (some ⟨w.heap.size, 0, none⟩) 0 0).ownBlock ≠ some g) := by show _ ≠ _; simp [Value.ownBlock]; omega
  have HLT : Hid (g < (w.alloc (.cells #[] 5)).heap.size) := by show _ < _; simp; omega
  have HL := hid hl
  have hw := wrap_u64 (show crc l < 18446744073709551616 by have := crc_lt l; omega)
  have C1 : Hid (∀ w5 : World, Byts w5 (some ⟨g, off, none⟩) l → Calls Try.prog 10 #[.slice (some ⟨g, off, none⟩) 508 c] w5 fun e w' => e = .returned (.int .u32 (crc l : Int)) ∧ w' = w5) := fun w5 h5 => by
    have := rsum_any (some ⟨g, off, none⟩) l c w5 (by omega) h5
    rwa [hl] at this
  have C2 : Hid (∀ w5 : World, Calls Try.prog 65 #[.int .u64 (crc l : Int), .int .i64 4] w5 fun e w' => ∃ q cq, e = .returned (.slice (some ⟨q, 0, none⟩) 4 cq) ∧ Byts w' (some ⟨q, 0, none⟩) (le 4 (crc l)) ∧ Below w5.heap.size w5 w') := fun w5 => by
    refine (rnumber_any (crc l) 4 w5 (by decide) (by have := crc_lt l; omega)).mono ?_
    rintro e w' ⟨v, he, O, B⟩
    obtain ⟨q, cq, rfl, _, _, y⟩ := O.is (by rw [le_len]; decide)
    rw [le_len] at he
    exact ⟨q, cq, he, y, B⟩
  have HS : Hid (sealed l = l ++ le 4 (crc l)) := rfl
  have HSl : Hid ((sealed l).length = 512) := by show _ = _; rw [sealed_len, hl]
  have HX4 := hid (le_len 4 (crc l))
  clear h hl
  generalize sealed l = S at *
  generalize le 4 (crc l) = X4 at *
  generalize crc l = N at *
  go_enter Try.func31, Try.ntmps31
  go_wp2_with (first
    | (go_at_call 10; go_loud (with_reducible refine (C1.out _ HY5.out).mono ?_); rintro e w6 ⟨rfl, hw6⟩; subst w6)
    | (go_at_call 65; go_loud (with_reducible refine (C2.out _).mono ?_); rintro e w7 ⟨q7, c7, rfl, Y7, B7⟩; have HY7 := hid Y7; have HO7 := hid (HO5.out.below B7); have HB7 := hid (HB5.out.trans (B7.mono HB5.out.size)); clear Y7 B7)
    | (at_builtin; first
        | (go_loud (refine appBlk w.heap.size _ _ _ [] l rfl rfl rfl _ _ _ _ rfl ?hn ?hO ?hX ?hm ?hl ?hb ?_; (case hn => exact HL.out.symm); (case hO => exact HO.out); (case hX => exact HY.out); (case hm => have := HL.out; omega); (case hl => have := HL.out; simp; omega); (case hb => simp); intro v5 w5 O5 G5 A5; have HO5 := hid O5; have HB5 := hid (below_own HB0.out G5 (by simp) HO.out.lt); have HY5 := hid (HY.out.grown HLT.out G5 HNE.out); clear O5 G5 A5; try go_frame))
        | (refine appBlk w.heap.size _ _ v5 l X4 rfl rfl rfl _ _ _ _ rfl ?hn ?hO ?hX ?hm ?hl ?hb ?_; (case hn => exact HX4.out.symm); (case hO => exact HO7.out); (case hX => exact HY7.out); (case hm => have := HX4.out; omega); (case hl => have := HL.out; have := HX4.out; omega); (case hb => exact HB7.out.size); intro v8 w8 O8 G8 A8; have HO8 := hid O8; have HB8 := hid (below_own HB7.out G8 HB7.out.size HO7.out.lt); clear O8 G8 A8; try go_frame))
    | fail)
  obtain ⟨q8, c8, hv8, hb8, _, y8⟩ := HO8.out.is (by have := HL.out; rw [List.length_append]; omega)
  subst hv8
  go_ret
  refine ⟨q8, c8, ?_, by rw [HS.out]; exact y8, HB8.out, hb8⟩
  have e : (l ++ X4).length = 512 := by rw [← HS.out]; exact HSl.out
  show Ending.returned (.slice (some ⟨q8, 0, none⟩) (l ++ X4).length c8) = _
  rw [e]
end Go.Proofs.Ytnecigbncggogaa
