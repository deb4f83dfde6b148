/- What the document's own letters answers, and what owning bytes gives. Conditions: the letters lie within the bytes, the text lies within the reach. -/
import Derived.Test.YtonikoijelhojaaCalcExch
import Derived.Handy
import Derived.Lib.QuietBelow
import Derived.Deep.AppendLies
namespace Go.Proofs.Ytonikoijelhojaa
open Go.RowKit Go.Lib Go.Sort
set_option linter.unusedVariables false

theorem infoByte : (Try.prog.info? 5).map (fun i => (i.zero, i.size, i.bytes)) = some (some (.int .u8 0), 1, 1) := by kernel_rfl
def bcells (l : List UInt8) : List Value := l.map fun b => Value.int .u8 b.toNat
/-- A row of bytes that the call owns; nil, if it has none yet. -/
def OwnB (w : World) (base : Nat) (v : Value) (l : List UInt8) : Prop := w.ownsRow base 5 1 v l.length (bcells l)

theorem own_nil (w : World) (base : Nat) : OwnB w base (.slice none 0 0) [] := World.ownsRow_nil w base _ _

theorem conv_own {w : World} {base : Nat} {v : Value} {l : List UInt8} (h : OwnB w base v l) : (convert 66 9 v).run Try.prog w = .ok (.string ⟨l.toArray⟩) w := by
  obtain ⟨hl, h2⟩ := h
  rcases h2 with ⟨h0, h1⟩ | ⟨g, cap, cur, hv, hg, hh, hle, hm, hs, ht⟩
  · subst h0
    obtain rfl : l = [] := List.length_eq_zero_iff.1 h1
    have := run_convert_bytes_string (P := Try.prog) w 66 9 5 none 0 0 Try.underlying66 Try.underlying5 Try.underlying9
    rw [this]
    rfl
  · subst hv
    refine run_convert_bytes_back (P := Try.prog) w 66 9 5 ⟨g, 0, none⟩ cap l Try.underlying66 Try.underlying5 Try.underlying9 (fun j hj => ?_)
    have hu : (bcells l)[j]? = some (.int .u8 l[j].toNat) := by simp [bcells, hj]
    rw [← ht, List.getElem?_take, if_pos (by omega), Array.getElem?_toList] at hu
    rw [show (⟨g, 0, none⟩ : Addr).add j = ⟨g, 0 + j, none⟩ by unfold Addr.add; split <;> simp_all]
    simp [World.cell?, hh, hu]

theorem bcells_snoc (l : List UInt8) (c : UInt8) (n : Int) (h : (c.toNat : Int) = n) : bcells l ++ [.int .u8 n] = bcells (l ++ [c]) := by subst h; simp [bcells]
theorem own_snoc {w' : World} {base : Nat} {l : List UInt8} {c : UInt8} {n : Int} {g cap m : Nat} (hm : l.length = m) (hn : (c.toNat : Int) = n) (h : w'.ownsRow base 5 1 (.slice (some ⟨g, 0, none⟩) (m + 1) cap) (m + 1) (bcells l ++ [.int .u8 n])) :
    OwnB w' base (.slice (some ⟨g, 0, none⟩) (m + 1) cap) (l ++ [c]) := by
  subst hm
  unfold OwnB
  rw [List.length_append, ← bcells_snoc l c n hn]
  exact h
theorem take_snoc' (s : ByteArray) (k : Nat) (h : k < s.size) : s.data.toList.take (k + 1) = s.data.toList.take k ++ [s[k]'h] := by
  rw [List.take_succ_eq_append_getElem (by simpa using h)]; rfl

set_option maxHeartbeats 2000000 in
theorem letters_any (f o : Nat) (s : ByteArray) (w : World) (hs : s.size ≤ 140737488351232) (hf : f ≤ 200) (ho : o ≤ 200) :
    Calls Try.prog 50 #[.string s, .int .u8 (f : Int), .int .u8 (o : Int)] w fun e w' => e = .returned (.string (exV f o s)) ∧ Below w.heap.size w w' := by
  obtain ⟨i0, hi, hz0, hz1, hz2⟩ := info_parts infoByte
  go_enter Try.func50, Try.ntmps50
  go_wp2
  go_loopw [7, 8] (fun b i wr => ∃ k : Nat, k ≤ s.size ∧ i = .int .i64 k ∧ OwnB wr w.heap.size b ((s.data.toList.take k).map (exB f o)) ∧ Below w.heap.size w wr) (fun _ i _ => s.size - (RowKit.intOf i).toNat)
  case atStart => exact ⟨0, Nat.zero_le _, rfl, own_nil _ _, Below.refl _ _⟩
  case round =>
    obtain ⟨k, hks, rfl, hO, hb⟩ := hrel
    by_cases hx : k < s.size
    · have hln : ((s.data.toList.take k).map (exB f o)).length = k := by simp; omega
      have hnx : (s.data.toList.take (k + 1)).map (exB f o) = (s.data.toList.take k).map (exB f o) ++ [exB f o (s[k]'hx)] := by rw [take_snoc' s k hx, List.map_append]; rfl
      have HN : Hid ((s.data.toList.take (k + 1)).map (exB f o) = (s.data.toList.take k).map (exB f o) ++ [exB f o (s[k]'hx)]) := hnx
      clear hnx
      have hsz := hb.size
      have ei : Hid (f ≤ (s[k]'hx).toNat → (s[k]'hx).toNat < f + 26 → ((exB f o (s[k]'hx)).toNat : Int) = ((s[k]'hx).toNat : Int) - f + o) := fun h1 h2 => exB_in h1 h2 ho
      have eo : Hid (¬ (f ≤ (s[k]'hx).toNat ∧ (s[k]'hx).toNat < f + 26) → ((exB f o (s[k]'hx)).toNat : Int) = ((s[k]'hx).toNat : Int)) := fun h => by rw [exB_out h]
      have hlt : (s[k]'hx).toNat < 256 := UInt8.toNat_lt _
      generalize hgz : exB f o (s[k]'hx) = z at *
      generalize hgl : (s.data.toList.take k).map (exB f o) = l at *
      clear hgz hgl
      have HO : Hid (OwnB wr w.heap.size _ l) := hO
      clear hO
      by_cases h1 : f ≤ (s[k]'hx).toNat
      · by_cases h2 : (s[k]'hx).toNat < f + 26
        · have EZ := ei.out h1 h2
          clear ei eo
          go_wp2_with (at_builtin; refine wpList_append_lies _ rfl _ _ 66 rfl w.heap.size 5 i0 (.int .u8 0) 1 1 Try.underlying66 hi hz0 hz1 hz2 rfl (by decide) _ _ _ rfl (HO.out.alloc _) ⟨wr.heap.size, 0, none⟩ 1 1 [.int .u8 (((s[k]'hx).toNat : Int) - f + o)] rfl rfl ?c1 (by simp [Value.oneCell']) (by decide) ?c3 ?c4 ?c5 _ rfl ?_)
          case c1 => exact World.news_of_block (heap_alloc_new wr _)
          case c3 => unfold maxLen; omega
          case c4 => omega
          case c5 => simp; omega
          intro g' cap' w3 hown' hgrow hat hlt'
          have HO' : Hid (OwnB w3 w.heap.size (.slice (some ⟨g', 0, none⟩) (k + 1) cap') (l ++ [z])) := own_snoc hln EZ hown'
          have B3 : Below w.heap.size w w3 := (hb.alloc hsz _).grown hgrow (by simp; omega) (fun k hk => (HO.out.lt k hk).1)
          clear hown' hgrow hat hlt' HO
          go_wp2
          go_roundw
          case rel => exact ⟨k + 1, by omega, by go_num, by rw [HN.out]; exact HO'.out, B3⟩
          case measure => simp [RowKit.intOf]; omega
        · have EZ := eo.out (fun h => h2 h.2)
          clear ei eo
          go_wp2_with (at_builtin; refine wpList_append_lies _ rfl _ _ 66 rfl w.heap.size 5 i0 (.int .u8 0) 1 1 Try.underlying66 hi hz0 hz1 hz2 rfl (by decide) _ _ _ rfl (HO.out.alloc _) ⟨wr.heap.size, 0, none⟩ 1 1 [.int .u8 (s[k]'hx).toNat] rfl rfl ?c1 (by simp [Value.oneCell']) (by decide) ?c3 ?c4 ?c5 _ rfl ?_)
          case c1 => exact World.news_of_block (heap_alloc_new wr _)
          case c3 => unfold maxLen; omega
          case c4 => omega
          case c5 => simp; omega
          intro g' cap' w3 hown' hgrow hat hlt'
          have HO' : Hid (OwnB w3 w.heap.size (.slice (some ⟨g', 0, none⟩) (k + 1) cap') (l ++ [z])) := own_snoc hln EZ hown'
          have B3 : Below w.heap.size w w3 := (hb.alloc hsz _).grown hgrow (by simp; omega) (fun k hk => (HO.out.lt k hk).1)
          clear hown' hgrow hat hlt' HO
          go_wp2
          go_roundw
          case rel => exact ⟨k + 1, by omega, by go_num, by rw [HN.out]; exact HO'.out, B3⟩
          case measure => simp [RowKit.intOf]; omega
      · have EZ := eo.out (fun h => h1 h.1)
        clear ei eo
        go_wp2_with (at_builtin; refine wpList_append_lies _ rfl _ _ 66 rfl w.heap.size 5 i0 (.int .u8 0) 1 1 Try.underlying66 hi hz0 hz1 hz2 rfl (by decide) _ _ _ rfl (HO.out.alloc _) ⟨wr.heap.size, 0, none⟩ 1 1 [.int .u8 (s[k]'hx).toNat] rfl rfl ?c1 (by simp [Value.oneCell']) (by decide) ?c3 ?c4 ?c5 _ rfl ?_)
        case c1 => exact World.news_of_block (heap_alloc_new wr _)
        case c3 => unfold maxLen; omega
        case c4 => omega
        case c5 => simp; omega
        intro g' cap' w3 hown' hgrow hat hlt'
        have HO' : Hid (OwnB w3 w.heap.size (.slice (some ⟨g', 0, none⟩) (k + 1) cap') (l ++ [z])) := own_snoc hln EZ hown'
        have B3 : Below w.heap.size w w3 := (hb.alloc hsz _).grown hgrow (by simp; omega) (fun k hk => (HO.out.lt k hk).1)
        clear hown' hgrow hat hlt' HO
        go_wp2
        go_roundw
        case rel => exact ⟨k + 1, by omega, by go_num, by rw [HN.out]; exact HO'.out, B3⟩
        case measure => simp [RowKit.intOf]; omega
    · obtain rfl : k = s.size := by omega
      have hcv := conv_own hO
      rw [List.take_of_length_le (by simp)] at hcv
      clear hO hx
      go_wp2
      go_ret
      exact ⟨rfl, hb⟩
end Go.Proofs.Ytonikoijelhojaa
