/- What the document's number and value answer; a page and a head's load, as the document writes them. No conditions but the sizes. A head's load, as the document writes it. No conditions but the sizes. -/
import Derived.Test.YtnecigbncggogaaPgRefA
import Derived.Test.YtnecigbncggogaaPgSeal
import Derived.Lib.SlBytesConst
namespace Go.Proofs.Ytnecigbncggogaa
open Go.RowKit
set_option linter.unusedVariables false
set_option maxRecDepth 20000

theorem OwnB.drew {w : World} {base : Nat} {v : Value} {l : List UInt8} (o : OwnB w base v l) : OwnB w.drew base v l := o
theorem OwnB.alloc {w : World} {base : Nat} {v : Value} {l : List UInt8} (o : OwnB w base v l) (x : Obj) : OwnB (w.alloc x) base v l := o.below ((Below.refl _ _).alloc (Nat.le_refl _) x)
theorem OwnB.lt {w : World} {base : Nat} {v : Value} {l : List UInt8} (o : OwnB w base v l) : ∀ k, v.ownBlock = some k → base ≤ k := fun k hk => (World.ownsRow.lt o k hk).1
theorem byte_new (w : World) (c : UInt8) (n : Int) (h : n = (c.toNat : Int)) : Byts (w.alloc (.cells #[.int .u8 n] 5)) (some ⟨w.heap.size, 0, none⟩) [c] := by
  subst h
  exact (Blk.new w (bcells [c]) 5).byts'
set_option maxHeartbeats 2000000 in
theorem rnumber_any (N k : Nat) (w : World) (hk : k ≤ 8) (hN : N < 18446744073709551616) :
    Calls Try.prog 65 #[.int .u64 (N : Int), .int .i64 (k : Int)] w fun e w' => ∃ v, e = .returned v ∧ OwnB w' w.heap.size v (le k N) ∧ Below w.heap.size w w' := by
  have HL := hid (le_len k N)
  go_enter Try.func65, Try.ntmps65
  go_wp2
  go_loopw [5, 6] (fun v i wr => ∃ m : Nat, m ≤ k ∧ i = .int .i64 (m : Int) ∧ OwnB wr w.heap.size v ((le k N).take m) ∧ Below w.heap.size w wr) (fun _ i _ => k - (RowKit.intOf i).toNat)
  case atStart => exact ⟨0, Nat.zero_le _, rfl, World.ownsRow_nil _ _ _ _, Below.refl _ _⟩
  case round =>
    obtain ⟨m, hm, rfl, O, B⟩ := hrel
    have HO := hid O
    have HB := hid B
    by_cases hx : m < k
    · have HT := hid (le_take_succ k N m hx)
      have hzz : (UInt8.ofNat (N / 256 ^ m % 256)).toNat = N / 256 ^ m % 256 := by rw [UInt8.toNat_ofNat']; omega
      have HZ := hid hzz
      generalize UInt8.ofNat (N / 256 ^ m % 256) = z at *
      have HLn : Hid (((le k N).take m).length ≤ 8) := by show _ ≤ _; rw [List.length_take, HL.out]; omega
      have HLt : Hid (((le k N).take m ++ [z]) = (le k N).take (m + 1)) := HT.out.symm
      generalize (le k N).take m = pre at *
      have HSz := hid B.size
      clear O B hzz
      have hk8 : m = 0 ∨ m = 1 ∨ m = 2 ∨ m = 3 ∨ m = 4 ∨ m = 5 ∨ m = 6 ∨ m = 7 := by omega
      rcases hk8 with rfl | rfl | rfl | rfl | rfl | rfl | rfl | rfl
      all_goals
        have hz := HZ.out
        simp only [Nat.reducePow, Nat.div_one] at hz
        go_wp2_with (first
          | (at_builtin; go_loud (refine appBlk w.heap.size _ _ _ pre [z] rfl rfl rfl _ _ _ _ rfl ?hn ?hO ?hX ?hm ?hl ?hb ?_; (case hn => rfl); (case hO => exact HO.out.alloc _); (case hX => exact byte_new _ z _ (by omega)); (case hm => simp); (case hl => have := HLn.out; simp; omega); (case hb => have := HSz.out; simp; omega); intro v' w' O' G' A'; have HO' := hid O'; have HG' := hid G'; clear O' G' A'; try go_frame))
          | fail)
        go_roundw
        case rel => exact ⟨_, hx, rfl, by rw [HLt.out] at HO'; exact HO'.out, below_own (HB.out.alloc HSz.out _) HG'.out (by have := HSz.out; simp; omega) HO.out.lt⟩
        case measure => simp [RowKit.intOf]; omega
    · obtain rfl : m = k := by omega
      rw [List.take_of_length_le (by rw [HL.out]; exact Nat.le_refl _)] at O
      have HO2 := hid O
      clear O B HO
      go_wp2
      go_ret
      exact ⟨_, rfl, HO2.out, HB.out⟩
set_option maxHeartbeats 2000000 in
theorem rvalue_any (g off c : Nat) (l : List UInt8) (w : World) (hl : l.length ≤ 8) (h0 : 0 < l.length) (h : Byts w (some ⟨g, off, none⟩) l) :
    Calls Try.prog 82 #[.slice (some ⟨g, off, none⟩) l.length c] w fun e w' => e = .returned (.int .u64 (unle l : Int)) ∧ w' = w := by
  have HB := hid h
  clear h
  go_enter Try.func82, Try.ntmps82
  go_wp2
  go_loopw [3, 4] (fun s i wr => wr = w ∧ ∃ j : Nat, j ≤ l.length ∧ i = .int .i64 ((j : Int) - 1) ∧ s = .int .u64 (unle (l.drop j) : Int)) (fun _ i _ => (RowKit.intOf i + 1).toNat)
  case atStart => exact ⟨rfl, l.length, Nat.le_refl _, rfl, by rw [List.drop_length]; rfl⟩
  case round =>
    obtain ⟨rfl, j, hj, rfl, rfl⟩ := hrel
    by_cases hx : 0 < j
    · obtain ⟨m, rfl⟩ : ∃ m, j = m + 1 := ⟨j - 1, by omega⟩
      have hck := HB.out.is m (by omega)
      have HD := hid (unle_drop l m (by omega))
      have hS := unle_lt (l.drop (m + 1))
      have hS2 : 256 ^ (l.drop (m + 1)).length ≤ 256 ^ 7 := Nat.pow_le_pow_right (by decide) (by rw [List.length_drop]; omega)
      have hS3 : (256 : Nat) ^ 7 = 72057594037927936 := by decide
      have hS4 : unle (l.drop (m + 1)) < 72057594037927936 := by omega
      clear hS hS2 hS3
      generalize unle (l.drop (m + 1)) = S at *
      generalize l[m] = z at *
      have hz := z.toNat_lt
      have hz2 : z.toNat < 256 := by omega
      clear hz
      have hgt : ¬ (((m + 1 : Nat) : Int) - 1 < 0) := by omega
      have hsim : ((m + 1 : Nat) : Int) - 1 = (m : Int) := by omega
      rw [hsim] at *
      go_wp2
      go_roundw
      case rel => exact ⟨trivial, m, by omega, rfl, u64_eq (by rw [HD.out]; push_cast; omega)⟩
      case measure => simp [RowKit.intOf]
    · obtain rfl : j = 0 := by omega
      rw [List.drop_zero]
      go_wp2
      go_ret
      exact ⟨rfl, rfl⟩
/-- A slice that is owned, in one form. -/
theorem OwnB.is {w : World} {base : Nat} {v : Value} {l : List UInt8} (o : OwnB w base v l) (hl : 0 < l.length) : ∃ g c, v = .slice (some ⟨g, 0, none⟩) l.length c ∧ base ≤ g ∧ g < w.heap.size ∧ Byts w (some ⟨g, 0, none⟩) l := by
  obtain ⟨g, c, rfl, hb, _⟩ := own_is' o hl
  exact ⟨g, c, rfl, hb, (World.ownsRow.lt o g rfl).2, own_bts o⟩
theorem Byts.grown {w w' : World} {g off : Nat} {l : List UInt8} {row : Option Nat} (h : Byts w (some ⟨g, off, none⟩) l) (hg : g < w.heap.size) (G : w.grownBy w' row) (hn : row ≠ some g) : Byts w' (some ⟨g, off, none⟩) l :=
  h.same (fun b o e => by
    simp only [Option.some.injEq, Addr.mk.injEq, and_true] at e
    rw [← e.1]
    exact G.block g hg (fun q => hn q.symm))
set_option maxHeartbeats 2000000 in
theorem rpage_any (g off c : Nat) (l : List UInt8) (w : World) (hl : l.length = 508) (h : Byts w (some ⟨g, off, none⟩) l) :
    Calls Try.prog 31 #[.slice (some ⟨g, off, none⟩) 508 c] w fun e w' => ∃ q cq, e = .returned (.slice (some ⟨q, 0, none⟩) 512 cq) ∧ Byts w' (some ⟨q, 0, none⟩) (sealed l) ∧ Below w.heap.size w w' ∧ w.heap.size ≤ q := by
  have hgl : g < w.heap.size := cell_lt (h.is 0 (by omega))
  have HO := hid (own_new w)
  have HY := hid (h.alloc (.cells #[] 5))
  have HB0 : Hid (Below w.heap.size w (w.alloc (.cells #[] 5))) := (Below.refl _ _).alloc (Nat.le_refl _) _
  have HNE : Hid ((Value.slice (some ⟨w.heap.size, 0, none⟩) 0 0).ownBlock ≠ some g) := by show _ ≠ _; simp [Value.ownBlock]; omega
  have HLT : Hid (g < (w.alloc (.cells #[] 5)).heap.size) := by show _ < _; simp; omega
  have HL := hid hl
  have hw := wrap_u64 (show crc l < 18446744073709551616 by have := crc_lt l; omega)
  have C1 : Hid (∀ w5 : World, Byts w5 (some ⟨g, off, none⟩) l → Calls Try.prog 10 #[.slice (some ⟨g, off, none⟩) 508 c] w5 fun e w' => e = .returned (.int .u32 (crc l : Int)) ∧ w' = w5) := fun w5 h5 => by
    have := rsum_any (some ⟨g, off, none⟩) l c w5 (by omega) h5
    rwa [hl] at this
  have C2 : Hid (∀ w5 : World, Calls Try.prog 65 #[.int .u64 (crc l : Int), .int .i64 4] w5 fun e w' => ∃ q cq, e = .returned (.slice (some ⟨q, 0, none⟩) 4 cq) ∧ Byts w' (some ⟨q, 0, none⟩) (le 4 (crc l)) ∧ Below w5.heap.size w5 w') := fun w5 => by
    refine (rnumber_any (crc l) 4 w5 (by decide) (by have := crc_lt l; omega)).mono ?_
    rintro e w' ⟨v, he, O, B⟩
    obtain ⟨q, cq, rfl, _, _, y⟩ := O.is (by rw [le_len]; decide)
    rw [le_len] at he
    exact ⟨q, cq, he, y, B⟩
  have HS : Hid (sealed l = l ++ le 4 (crc l)) := rfl
  have HSl : Hid ((sealed l).length = 512) := by show _ = _; rw [sealed_len, hl]
  have HX4 := hid (le_len 4 (crc l))
  clear h hl
  generalize sealed l = S at *
  generalize le 4 (crc l) = X4 at *
  generalize crc l = N at *
  go_enter Try.func31, Try.ntmps31
  go_wp2_with (first
    | (go_at_call 10; go_loud (with_reducible refine (C1.out _ HY5.out).mono ?_); rintro e w6 ⟨rfl, hw6⟩; subst w6)
    | (go_at_call 65; go_loud (with_reducible refine (C2.out _).mono ?_); rintro e w7 ⟨q7, c7, rfl, Y7, B7⟩; have HY7 := hid Y7; have HO7 := hid (HO5.out.below B7); have HB7 := hid (HB5.out.trans (B7.mono HB5.out.size)); clear Y7 B7)
    | (at_builtin; first
        | (go_loud (refine appBlk w.heap.size _ _ _ [] l rfl rfl rfl _ _ _ _ rfl ?hn ?hO ?hX ?hm ?hl ?hb ?_; (case hn => exact HL.out.symm); (case hO => exact HO.out); (case hX => exact HY.out); (case hm => have := HL.out; omega); (case hl => have := HL.out; simp; omega); (case hb => simp); intro v5 w5 O5 G5 A5; have HO5 := hid O5; have HB5 := hid (below_own HB0.out G5 (by simp) HO.out.lt); have HY5 := hid (HY.out.grown HLT.out G5 HNE.out); clear O5 G5 A5; try go_frame))
        | (refine appBlk w.heap.size _ _ v5 l X4 rfl rfl rfl _ _ _ _ rfl ?hn ?hO ?hX ?hm ?hl ?hb ?_; (case hn => exact HX4.out.symm); (case hO => exact HO7.out); (case hX => exact HY7.out); (case hm => have := HX4.out; omega); (case hl => have := HL.out; have := HX4.out; omega); (case hb => exact HB7.out.size); intro v8 w8 O8 G8 A8; have HO8 := hid O8; have HB8 := hid (below_own HB7.out G8 HB7.out.size HO7.out.lt); clear O8 G8 A8; try go_frame))
    | fail)
  obtain ⟨q8, c8, hv8, hb8, _, y8⟩ := HO8.out.is (by have := HL.out; rw [List.length_append]; omega)
  subst hv8
  go_ret
  refine ⟨q8, c8, ?_, by rw [HS.out]; exact y8, HB8.out, hb8⟩
  have e : (l ++ X4).length = 512 := by rw [← HS.out]; exact HSl.out
  show Ending.returned (.slice (some ⟨q8, 0, none⟩) (l ++ X4).length c8) = _
  rw [e]
end Go.Proofs.Ytnecigbncggogaa
namespace Go.Proofs.Ytnecigbncggogaa
open Go.RowKit
set_option linter.unusedVariables false
set_option maxRecDepth 20000

/-- append of bytes, the answer written out. -/
theorem appN {ops : Array Oper} {rest : List Oper} {o : Oper} {a : Act} {w : World} {Q : Exit → Act → World → Prop} (base : Nat) (s x : Operand) (v : Value) (l m r : List UInt8) (N : Nat) (hgd : o.guard = none)
    (ho : o.op = .call { callee := .builtin .append, args := #[s, x], argTypes := #[22, 22] }) (hs : a.eval s = v) (g off cx : Nat) (n : Nat) (hx : a.eval x = .slice (some ⟨g, off, none⟩) n cx) (hn : n = m.length)
    (O : OwnB w base v l) (X : Byts w (some ⟨g, off, none⟩) m) (hm : 0 < m.length) (hl : l.length + m.length ≤ 140737488351232) (hb : base ≤ w.heap.size) (hr : l ++ m = r) (hN : r.length = N)
    (h : ∀ g' c' w', OwnB w' base (.slice (some ⟨g', 0, none⟩) N c') r → base ≤ g' ∧ g' < w'.heap.size → Byts w' (some ⟨g', 0, none⟩) r → w.grownBy w' v.ownBlock → (∀ k, v.ownBlock = some k → base ≤ k) → wpList Try.prog ops Q rest (a.put o.dst (.slice (some ⟨g', 0, none⟩) N c')) w') :
    wpList Try.prog ops Q (o :: rest) a w := by
  refine appBlk base s x v l m hgd ho hs g off cx n hx hn O X hm hl hb ?_
  intro v' w' O' G' A'
  rw [hr] at O'
  obtain ⟨g', c', rfl, h1, h2, y⟩ := O'.is (by rw [← hr, List.length_append]; omega)
  rw [hN] at *
  exact h g' c' w' O' ⟨h1, h2⟩ y G' O.lt
/-- .. onto a slice without room. -/
theorem fullN {ops : Array Oper} {rest : List Oper} {o : Oper} {a : Act} {w : World} {Q : Exit → Act → World → Prop} (s x : Operand) (l m r : List UInt8) (N : Nat) (hgd : o.guard = none)
    (ho : o.op = .call { callee := .builtin .append, args := #[s, x], argTypes := #[22, 22] }) (g0 o0 n0 c0 : Nat) (hs : a.eval s = .slice (some ⟨g0, o0, none⟩) n0 c0) (hn0 : n0 = l.length) (hc0 : c0 = l.length) (g off cx n : Nat) (hx : a.eval x = .slice (some ⟨g, off, none⟩) n cx) (hn : n = m.length)
    (L : Byts w (some ⟨g0, o0, none⟩) l) (X : Byts w (some ⟨g, off, none⟩) m) (hm : 0 < m.length) (hl : l.length + m.length ≤ 140737488351232) (hr : l ++ m = r) (hN : r.length = N)
    (h : ∀ g' c' w', OwnB w' w.heap.size (.slice (some ⟨g', 0, none⟩) N c') r → w.heap.size ≤ g' ∧ g' < w'.heap.size → Byts w' (some ⟨g', 0, none⟩) r → Below w.heap.size w w' → wpList Try.prog ops Q rest (a.put o.dst (.slice (some ⟨g', 0, none⟩) N c')) w') : wpList Try.prog ops Q (o :: rest) a w := by
  refine appFull s x l m hgd ho g0 o0 n0 c0 hs hn0 hc0 g off cx n hx hn L X hm hl ?_
  intro v' w' O' B'
  rw [hr] at O'
  obtain ⟨g', c', rfl, h1, h2, y⟩ := O'.is (by rw [← hr, List.length_append]; omega)
  rw [hN] at *
  exact h g' c' w' O' ⟨h1, h2⟩ y B'
/-- .. of noughts. -/
theorem zerosN {ops : Array Oper} {rest : List Oper} {o : Oper} {a : Act} {w : World} {Q : Exit → Act → World → Prop} (base : Nat) (s x : Operand) (v : Value) (l r : List UInt8) (n N : Nat) (hgd : o.guard = none)
    (ho : o.op = .call { callee := .builtin .append, args := #[s, x], argTypes := #[22, 3] }) (hs : a.eval s = v) (z : Int) (hx : a.eval x = .int .i64 z) (hz : z = (n : Int))
    (O : OwnB w base v l) (h0 : 0 < l.length) (hn : 0 < n) (hl : l.length + n ≤ 140737488351232) (hb : base ≤ w.heap.size) (hr : l ++ noughts n = r) (hN : r.length = N)
    (h : ∀ g' c' w', OwnB w' base (.slice (some ⟨g', 0, none⟩) N c') r → base ≤ g' ∧ g' < w'.heap.size → Byts w' (some ⟨g', 0, none⟩) r → w.grownBy w' v.ownBlock → (∀ k, v.ownBlock = some k → base ≤ k) → wpList Try.prog ops Q rest (a.put o.dst (.slice (some ⟨g', 0, none⟩) N c')) w') : wpList Try.prog ops Q (o :: rest) a w := by
  refine appZeros base s x v l n hgd ho hs z hx hz O h0 hn hl hb ?_
  intro v' w' O' G' A'
  rw [hr] at O'
  obtain ⟨g', c', rfl, h1, h2, y⟩ := O'.is (by rw [← hr, List.length_append]; omega)
  rw [hN] at *
  exact h g' c' w' O' ⟨h1, h2⟩ y G' O.lt
theorem alloc_le (w : World) (o : Obj) : w.heap.size ≤ (w.alloc o).heap.size := by simp
theorem alloc_lt {w : World} {g : Nat} (h : g < w.heap.size) (o : Obj) : g < (w.alloc o).heap.size := Nat.lt_of_lt_of_le h (alloc_le w o)
theorem own_nil (w : World) : OwnB (w.alloc (.cells #[] 5)) w.heap.size (.slice (some ⟨w.heap.size, 0, none⟩) 0 0) [] := own_new w
theorem Byts.far {w w' : World} {g B : Nat} {l : List UInt8} {row : Option Nat} (h : Byts w (some ⟨g, 0, none⟩) l) (hg : g < w.heap.size) (G : w.grownBy w' row) (hr : ∀ k, row = some k → B ≤ k) (hn : g < B) : Byts w' (some ⟨g, 0, none⟩) l :=
  h.grown hg G (fun e => by have := hr g e; omega)
set_option maxHeartbeats 4000000 in
theorem rhead_any (G R : Nat) (w : World) (hG : G < 9223372036854775808) (hR : R < 9223372036854775808) :
    Calls Try.prog 32 #[.int .i64 (G : Int), .int .i64 (R : Int)] w fun e w' => ∃ q cq, e = .returned (.slice (some ⟨q, 0, none⟩) 508 cq) ∧ Byts w' (some ⟨q, 0, none⟩) (headLoad G R) ∧ Below w.heap.size w w' ∧ w.heap.size ≤ q := by
  have hcv : (convert 22 22 (.slice (some ⟨w.heap.size, 0, none⟩) 4 4)).run Try.prog (w.alloc (.cells #[.int .u8 81, .int .u8 82, .int .u8 89, .int .u8 49] 5)) = .ok (.slice (some ⟨w.heap.size, 0, none⟩) 4 4) (w.alloc (.cells #[.int .u8 81, .int .u8 82, .int .u8 89, .int .u8 49] 5 (4, 5))) :=
    Go.Lib.run_convert_bytes_const (P := Try.prog) w 22 5 #[.int .u8 81, .int .u8 82, .int .u8 89, .int .u8 49] 4 4 Try.underlying22 Try.underlying5
  have HY0 : Hid (Byts (w.alloc (.cells #[.int .u8 81, .int .u8 82, .int .u8 89, .int .u8 49] 5 (4, 5))) (some ⟨w.heap.size, 0, none⟩) [81, 82, 89, 49]) := Or.inr ⟨_, _, rfl, fun i hi => by
    have hi' : i < 4 := hi
    rw [cell_of_row _ w.heap.size (0 + i) #[.int .u8 81, .int .u8 82, .int .u8 89, .int .u8 49] 5 (4, 5) (heap_alloc_new w _), Nat.zero_add]
    have : i = 0 ∨ i = 1 ∨ i = 2 ∨ i = 3 := by omega
    rcases this with rfl | rfl | rfl | rfl <;> rfl⟩
  have HB0 : Hid (Below w.heap.size w (w.alloc (.cells #[.int .u8 81, .int .u8 82, .int .u8 89, .int .u8 49] 5 (4, 5)))) := (Below.refl _ _).alloc (Nat.le_refl _) _
  have HS0 : Hid (w.heap.size < (w.alloc (.cells #[.int .u8 81, .int .u8 82, .int .u8 89, .int .u8 49] 5 (4, 5))).heap.size) := by show _ < _; simp
  have hw1 := wrap_u64 (show G < 18446744073709551616 by omega)
  have hw2 := wrap_u64 (show R < 18446744073709551616 by omega)
  have CN : Hid (∀ (w5 : World) (x k : Nat), k ≤ 8 → 0 < k → x < 18446744073709551616 → Calls Try.prog 65 #[.int .u64 (x : Int), .int .i64 (k : Int)] w5 fun e w' => ∃ q cq, e = .returned (.slice (some ⟨q, 0, none⟩) k cq) ∧ Byts w' (some ⟨q, 0, none⟩) (le k x) ∧ Below w5.heap.size w5 w') := fun w5 x k hk h0 hx => by
    refine (rnumber_any x k w5 hk hx).mono ?_
    rintro e w' ⟨v, he, O, B⟩
    obtain ⟨q, cq, rfl, _, _, y⟩ := O.is (by rw [le_len]; exact h0)
    rw [le_len] at he
    exact ⟨q, cq, he, y, B⟩
  have C8 : Hid (∀ w5 : World, Calls Try.prog 65 #[.int .u64 (G : Int), .int .i64 8] w5 fun e w' => ∃ q cq, e = .returned (.slice (some ⟨q, 0, none⟩) 8 cq) ∧ Byts w' (some ⟨q, 0, none⟩) (le 8 G) ∧ Below w5.heap.size w5 w') := fun w5 => CN.out w5 G 8 (by decide) (by decide) (by omega)
  have C4 : Hid (∀ w5 : World, Calls Try.prog 65 #[.int .u64 (R : Int), .int .i64 4] w5 fun e w' => ∃ q cq, e = .returned (.slice (some ⟨q, 0, none⟩) 4 cq) ∧ Byts w' (some ⟨q, 0, none⟩) (le 4 R) ∧ Below w5.heap.size w5 w') := fun w5 => CN.out w5 R 4 (by decide) (by decide) (by omega)
  have E1 : Hid ([81, 82, 89, 49] ++ le 8 G ++ le 4 R = hrec G R) := by show _ = _; simp [hrec]
  have E2 : Hid (hrec G R ++ noughts 476 ++ hrec G R = headLoad G R) := by show _ = _; simp [headLoad]
  have L8 := hid (le_len 8 G)
  have L4 := hid (le_len 4 R)
  have LR := hid (hrec_len G R)
  have LH := hid (headLoad_len G R)
  have L12 : Hid (([81, 82, 89, 49] ++ le 8 G).length = 12) := by show _ = _; rw [List.length_append, le_len]; rfl
  have L492 : Hid ((hrec G R ++ noughts 476).length = 492) := by show _ = _; rw [List.length_append, hrec_len, noughts_len]
  generalize headLoad G R = HL at *
  generalize hrec G R = HR at *
  generalize le 8 G = X8 at *
  generalize le 4 R = X4 at *
  clear CN
  go_enter Try.func32, Try.ntmps32
  go_wp2_with (first
    | (go_at_call 65; first
        | (with_reducible refine (C8.out _).mono ?_; rintro e w2 ⟨q2, c2, rfl, Y2, B2⟩; have HY2 := hid Y2; have HZ2 := hid (HY0.out.below B2); have HB2 := hid (HB0.out.trans (B2.mono HB0.out.size)); clear Y2 B2 C8)
        | (with_reducible refine (C4.out _).mono ?_; rintro e w4 ⟨q4, c4, rfl, Y4, B4⟩; have HY4 := hid Y4; have HO4 := hid (HO3.out.below B4); have HB4 := hid (HB3.out.trans (B4.mono HB3.out.size)); have HS4 := hid (Nat.le_trans HS3.out B4.size); clear Y4 B4 C4))
    | (at_builtin; first
        | (refine fullN _ _ [81, 82, 89, 49] X8 _ 12 rfl rfl _ _ _ _ rfl rfl rfl _ _ _ _ rfl ?hn ?hL ?hX ?hm ?hl rfl ?hN ?_; (case hn => exact L8.out.symm); (case hL => exact HZ2.out); (case hX => exact HY2.out); (case hm => have := L8.out; omega); (case hl => have := L8.out; simp; omega); (case hN => exact L12.out); intro g3 k3 w3 O3 I3 Y3 B3; have HO3 := hid O3; have HB3 := hid (HB2.out.trans (B3.mono HB2.out.size)); have HS3 := hid B3.size; clear O3 I3 Y3 B3 HZ2; try go_frame)
        | (refine appN w2.heap.size _ _ _ ([81, 82, 89, 49] ++ X8) X4 HR 16 rfl rfl rfl _ _ _ _ rfl ?hn ?hO ?hX ?hm ?hl ?hb ?hr ?hN ?_; (case hn => exact L4.out.symm); (case hO => exact HO4.out); (case hX => exact HY4.out); (case hm => have := L4.out; omega); (case hl => have := L4.out; have := L12.out; omega); (case hb => exact HS4.out); (case hr => exact E1.out); (case hN => exact LR.out); intro g5 k5 w5 O5 I5 Y5 G5 R5; have HY5 := hid Y5; have HI5 := hid I5.2; have HB5 := hid (below_own HB4.out G5 HB4.out.size (fun j hj => Nat.le_trans HB2.out.size (R5 j hj))); have HO6 := hid (own_nil w5); have HY6 := hid (Y5.alloc (.cells #[] 5)); have HB6 := hid (HB5.out.alloc HB5.out.size (.cells #[] 5)); clear O5 I5 Y5 G5 R5 HO4; try go_frame)
        | (refine appN w5.heap.size _ _ _ [] HR HR 16 rfl rfl rfl _ _ _ _ rfl ?hn ?hO ?hX ?hm ?hl ?hb ?hr ?hN ?_; (case hn => exact LR.out.symm); (case hO => exact HO6.out); (case hX => exact HY6.out); (case hm => have := LR.out; omega); (case hl => have := LR.out; simp; omega); (case hb => simp); (case hr => exact List.nil_append _); (case hN => exact LR.out); intro g7 k7 w7 O7 I7 Y7 G7 R7; have HO7 := hid O7; have HY7 := hid (HY6.out.far (alloc_lt HI5.out _) G7 R7 HI5.out); have HB7 := hid (below_own HB6.out G7 HB6.out.size (fun j hj => Nat.le_trans HB5.out.size (R7 j hj))); have HS7 := hid (Nat.le_trans (alloc_le w5 (.cells #[] 5)) G7.size); clear O7 I7 Y7 G7 R7 HO6; try go_frame)
        | (refine zerosN w5.heap.size _ _ _ HR (HR ++ noughts 476) 476 492 rfl rfl rfl _ rfl rfl ?hO ?h0 ?hn ?hl ?hb rfl ?hN ?_; (case hO => exact HO7.out); (case h0 => have := LR.out; omega); (case hn => decide); (case hl => have := LR.out; omega); (case hb => exact HS7.out); (case hN => exact L492.out); intro g8 k8 w8 O8 I8 Y8 G8 R8; have HO8 := hid O8; have HY8 := hid (HY7.out.far (Nat.lt_of_lt_of_le HI5.out HS7.out) G8 R8 HI5.out); have HB8 := hid (below_own HB7.out G8 HB7.out.size (fun j hj => Nat.le_trans HB5.out.size (R8 j hj))); have HS8 := hid (Nat.le_trans HS7.out G8.size); clear O8 I8 Y8 G8 R8 HO7; try go_frame)
        | (refine appN w5.heap.size _ _ _ (HR ++ noughts 476) HR HL 508 rfl rfl rfl _ _ _ _ rfl ?hn ?hO ?hX ?hm ?hl ?hb ?hr ?hN ?_; (case hn => exact LR.out.symm); (case hO => exact HO8.out); (case hX => exact HY8.out); (case hm => have := LR.out; omega); (case hl => have := LR.out; have := L492.out; omega); (case hb => exact HS8.out); (case hr => exact E2.out); (case hN => exact LH.out); intro g9 k9 w9 O9 I9 Y9 G9 R9; have HY9 := hid Y9; have HI9 := hid I9.1; have HB9 := hid (below_own HB8.out G9 HB8.out.size (fun j hj => Nat.le_trans HB5.out.size (R9 j hj))); clear O9 I9 Y9 G9 R9 HO8; try go_frame))
    | fail)
  go_ret
  exact ⟨_, _, rfl, HY9.out, HB9.out, Nat.le_trans HB5.out.size HI9.out⟩
end Go.Proofs.Ytnecigbncggogaa
