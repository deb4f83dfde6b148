/- What isPage, isInline, rises, bytes.Compare, bytes.Clone of package node, the document's page, and the law's clone do. Conditions: bytes lie within the reach. -/
import Derived.Test.YtilmlegkkgiahaaNdMem
import Derived.Lib.Bytealg
import Derived.Laws.Cover1
import Derived.Laws.Cover3
namespace Go.Proofs.Ytilmlegkkgiahaa
open Go.RowKit Go.Lib
set_option linter.unusedVariables false
set_option maxRecDepth 20000

set_option maxHeartbeats 1000000 in
theorem page_any (n : Int) (w : World) : Calls Try.prog 51 #[.int .i64 n] w fun e w' => e = .returned (.bool (isPage n)) ∧ w' = w := by
  have HS : Hid (isPage n = (decide (2 ≤ n) && decide (n < 4096))) := rfl
  generalize isPage n = q at *
  by_cases h1 : 2 ≤ n
  · by_cases h2 : n < 4096
    · go_enter Try.func51, Try.ntmps51
      go_wp2
      go_ret
      exact ⟨by rw [HS.out, decide_eq_true (by omega), decide_eq_true (by omega)]; rfl, rfl⟩
    · go_enter Try.func51, Try.ntmps51
      go_wp2
      go_ret
      exact ⟨by rw [HS.out, decide_eq_true (by omega), decide_eq_false (by omega)]; rfl, rfl⟩
  · go_enter Try.func51, Try.ntmps51
    go_wp2
    go_ret
    exact ⟨by rw [HS.out, decide_eq_false (by omega)]; rfl, rfl⟩
set_option maxHeartbeats 1000000 in
theorem rpage_any (n : Int) (w : World) : Calls Try.prog 47 #[.int .i64 n] w fun e w' => e = .returned (.bool (isPage n)) ∧ w' = w := by
  have HS : Hid (isPage n = (decide (2 ≤ n) && decide (n < 4096))) := rfl
  generalize isPage n = q at *
  by_cases h1 : 2 ≤ n
  · by_cases h2 : n < 4096
    · go_enter Try.func47, Try.ntmps47
      go_wp2
      go_ret
      exact ⟨by rw [HS.out, decide_eq_true (by omega), decide_eq_true (by omega)]; rfl, rfl⟩
    · go_enter Try.func47, Try.ntmps47
      go_wp2
      go_ret
      exact ⟨by rw [HS.out, decide_eq_true (by omega), decide_eq_false (by omega)]; rfl, rfl⟩
  · go_enter Try.func47, Try.ntmps47
    go_wp2
    go_ret
    exact ⟨by rw [HS.out, decide_eq_false (by omega)]; rfl, rfl⟩
/-- A value that stands in its cell. -/
def inl (n : Int) : Bool := decide (n ≤ 64)
theorem inline_any (n : Int) (w : World) : Calls Try.prog 61 #[.int .i64 n] w fun e w' => e = .returned (.bool (inl n)) ∧ w' = w := by
  have HS : Hid (inl n = decide (n ≤ 64)) := rfl
  generalize inl n = q at *
  by_cases h1 : n ≤ 64
  · go_enter Try.func61, Try.ntmps61
    go_wp2
    go_ret
    exact ⟨by rw [HS.out, decide_eq_true h1]; rfl, rfl⟩
  · go_enter Try.func61, Try.ntmps61
    go_wp2
    go_ret
    exact ⟨by rw [HS.out, decide_eq_false (by omega)]; rfl, rfl⟩

/-! ### The order of bytes -/
theorem run_loadB {P : Program} (w : World) : ∀ (l : List UInt8) (b off : Nat) (acc : ByteArray), (∀ i (h : i < l.length), w.cell? ⟨b, off + i, none⟩ = some (.int .u8 (l[i].toNat : Int))) →
    (Extern.Bytes.loadBytes ⟨b, off, none⟩ l.length acc).run P w = .ok ⟨acc.data ++ l.toArray⟩ w
  | [], b, off, acc, _ => by simp [Extern.Bytes.loadBytes]
  | x :: l, b, off, acc, h => by
    have h0 : w.cell? ⟨b, off, none⟩ = some (.int .u8 (x.toNat : Int)) := h 0 (by simp)
    have ih := run_loadB (P := P) w l b (off + 1) (acc.push ((x.toNat : Int)).toNat.toUInt8) (fun i hi => by
      have := h (i + 1) (by simpa using hi)
      rw [show off + 1 + i = off + (i + 1) by omega]
      simpa using this)
    have e : (⟨b, off, none⟩ : Addr).add 1 = ⟨b, off + 1, none⟩ := add_cell b off 1
    simp only [List.length_cons, Extern.Bytes.loadBytes, Sem.run_bind, run_load, h0, Result.andThen, e]
    rw [ih]
    congr 1
    apply ByteArray.ext
    simp [ByteArray.push]
theorem run_bytesB {P : Program} {w : World} {F : Nat → Prop} {p : Option Addr} {l : List UInt8} (c : Nat) (h : Byts w F p l) : (Extern.Bytes.bytesOf (.slice p l.length c)).run P w = .ok ⟨l.toArray⟩ w := by
  rcases h with rfl | ⟨b, off, rfl, _, hc⟩
  · cases p with
    | none => rfl
    | some a => rfl
  · show (Extern.Bytes.loadBytes ⟨b, off, none⟩ l.length .empty).run P w = _
    rw [run_loadB w l b off .empty hc]
    congr 1
    apply ByteArray.ext
    show (#[] : Array UInt8) ++ l.toArray = l.toArray
    simp
theorem run_cmpB {P : Program} {w : World} {F G : Nat → Prop} {p q : Option Addr} {l m : List UInt8} (c d : Nat) (h : Byts w F p l) (k : Byts w G q m) :
    (Extern.BytealgCompare.compare #[.slice p l.length c, .slice q m.length d]).run P w = .ok (.int .i64 (compareBytes l m)) w := by
  change Sem.run P (do pure (goInt (Extern.BytealgCompare.cmp (← Extern.Bytes.bytesOf (.slice p l.length c)) (← Extern.Bytes.bytesOf (.slice q m.length d))))) w = _
  simp only [Sem.run_bind, Sem.run_pure, run_bytesB c h, run_bytesB d k, Result.andThen]
  rw [cmp_eq]
  rfl
theorem cmp_ltB : ∀ l m : List UInt8, decide (compareBytes l m < 0) = ltB l m
  | [], [] => rfl
  | [], _ :: _ => rfl
  | _ :: _, [] => rfl
  | a :: r, b :: s => by
    simp only [compareBytes, ltB, UInt8.lt_iff_toNat_lt]
    split
    · rfl
    · split
      · rfl
      · exact cmp_ltB r s
theorem le_ltB : ∀ l m : List UInt8, (Op.bytesLess l m || l == m) = !ltB m l
  | [], [] => rfl
  | [], _ :: _ => rfl
  | _ :: _, [] => rfl
  | a :: r, b :: s => by
    have ih := le_ltB r s
    simp only [Op.bytesLess, ltB, UInt8.lt_iff_toNat_lt]
    by_cases h1 : a.toNat < b.toNat
    · have : ¬ b.toNat < a.toNat := by omega
      simp [h1, this]
    · by_cases h2 : b.toNat < a.toNat
      · have : ¬ a = b := by rintro rfl; omega
        simp [h1, h2, this]
      · have : a = b := UInt8.toNat_inj.1 (by omega)
        subst this
        simpa [h1] using ih
theorem bcmp_any {F G : Nat → Prop} (p q : Option Addr) (l m : List UInt8) (c d : Nat) (w : World) (h : Byts w F p l) (k : Byts w G q m) :
    Calls Try.prog 62 #[.slice p l.length c, .slice q m.length d] w fun e w' => e = .returned (.int .i64 (compareBytes l m)) ∧ w' = w := by
  have hx : (callFunc 70 #[.slice p l.length c, .slice q m.length d]).run Try.prog w = .ok (.value (.int .i64 (compareBytes l m))) w := by
    rw [run_callFunc_extern (e := Extern.BytealgCompare.compare) Try.func70 (by kernel_rfl) (by kernel_rfl) (by kernel_rfl) (by kernel_rfl), run_cmpB c d h k]
    rfl
  go_enter Try.func62, Try.ntmps62
  go_wp2
  go_ret
  exact ⟨rfl, rfl⟩
theorem rises_any {F G : Nat → Prop} (p q : Option Addr) (l m : List UInt8) (c d : Nat) (w : World) (h : Byts w F p l) (k : Byts w G q m) :
    Calls Try.prog 50 #[.slice p l.length c, .slice q m.length d] w fun e w' => e = .returned (.bool (ltB l m)) ∧ w' = w := by
  have P := hid (bcmp_any p q l m c d w h k)
  have HQ := hid (cmp_ltB l m)
  clear h k
  generalize compareBytes l m = z at *
  generalize ltB l m = b at *
  go_enter Try.func50, Try.ntmps50
  go_wp2_with (first
    | (go_at_call 62; with_reducible refine P.out.mono ?_; rintro e w3 ⟨rfl, hw⟩; subst hw)
    | fail)
  all_goals
    go_ret
    exact ⟨by rw [← HQ.out]; first | rfl | simp [*], rfl⟩

/-! ### Copies of bytes -/
theorem own_empty (w : World) (base : Nat) (hb : base ≤ w.heap.size) : OwnB (w.alloc (.cells #[] 5)) base (.slice (some ⟨w.heap.size, 0, none⟩) 0 0) [] := World.ownsRow_made (base := base) (e := 5) (size := 1) w #[] 0 hb (Nat.zero_le _) rfl
/-- append([]byte{}, x...). -/
theorem run_copyB (w : World) (ty : TypeId) {F : Nat → Prop} {vx : Value} {m : List UInt8} (X : BV w F vx m) :
    ∃ v' w', (Builtin.append_ #[31, 31] ty #[.slice (some ⟨w.heap.size, 0, none⟩) 0 0, vx]).run Try.prog (w.alloc (.cells #[] 5)) = .ok v' w' ∧ OwnB w' w.heap.size v' m ∧ Below w.heap.size w w' := by
  have hl : m.length ≤ 140737488351232 := by obtain ⟨_, _, _, _, _, _, h⟩ := X; exact h
  obtain ⟨v', w', hr, h1, _, h3⟩ := run_appY ty (own_empty w w.heap.size (Nat.le_refl _)) (X.below (alloc_below w _)) (by simpa using hl) (by simp)
  exact ⟨v', w', hr, by simpa using h1, (alloc_below w _).trans h3⟩
def clEnd (w : World) (l : List UInt8) (e : Ending) (w' : World) : Prop := ∃ v, e = .returned v ∧ OwnB w' w.heap.size v l ∧ Below w.heap.size w w'
set_option maxHeartbeats 1000000 in
theorem clone_any {F : Nat → Prop} (v : Value) (l : List UInt8) (w : World) (h : BV w F v l) : Calls Try.prog 18 #[v] w (clEnd w l) := by
  have HX := hid h
  obtain ⟨p, c, rfl, _⟩ := h
  go_enter Try.func18, Try.ntmps18
  go_wp2_with (at_builtin; obtain ⟨v', w', hr, O', B'⟩ := run_copyB w 31 HX.out; refine wl_run rfl rfl rfl rfl hr ?_; clear hr)
  go_ret
  exact ⟨_, rfl, O', B'⟩
set_option maxHeartbeats 1000000 in
theorem bclone_any {F : Nat → Prop} (v : Value) (l : List UInt8) (w : World) (h : BV w F v l) : Calls Try.prog 66 #[v] w (clEnd w l) := by
  have HX := hid h
  obtain ⟨p, c, rfl, hb, _, hn, _⟩ := h
  cases p with
  | none =>
    obtain ⟨h0, rfl⟩ := hn rfl
    obtain rfl := List.length_eq_zero_iff.1 h0
    have hnil : (binOp .eql 31 (.slice none 0 0) (.slice none 0 0)).run Try.prog w = .ok (.bool true) w := run_eql_slice_nil w _ _ _ _ _ _ _ Try.underlying31
    show Calls Try.prog 66 #[.slice none 0 0] w (clEnd w [])
    go_enter Try.func66, Try.ntmps66
    go_wp2
    go_ret
    exact ⟨_, rfl, own_nil _ _, Below.refl _ _⟩
  | some a =>
    have hnil : (binOp .eql 31 (.slice (some a) l.length c) (.slice none 0 0)).run Try.prog w = .ok (.bool false) w := run_eql_slice_nil w _ _ _ _ _ _ _ Try.underlying31
    go_enter Try.func66, Try.ntmps66
    go_wp2_with (at_builtin; obtain ⟨v', w', hr, O', B'⟩ := run_copyB w 31 HX.out; refine wl_run rfl rfl rfl rfl hr ?_; clear hr)
    go_ret
    exact ⟨_, rfl, O', B'⟩
end Go.Proofs.Ytilmlegkkgiahaa
