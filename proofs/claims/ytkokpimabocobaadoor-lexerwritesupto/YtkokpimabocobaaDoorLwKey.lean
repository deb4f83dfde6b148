/- What the project's Keyword and the document's answer. No condition. -/
import Derived.Test.YtkokpimabocobaaDoorChecked
import Derived.WalkKit
import Derived.WalkSpells
import Derived.WalkLawsBesides
import Derived.WalkSmall
import Derived.Handy
import Derived.Laws.IdiomStrings
namespace Go.Proofs.YtkokpimabocobaaDoor
open Go.RowKit Go.Lib
set_option linter.unusedVariables false
set_option maxRecDepth 20000

/-- Is it a keyword? -/
def kws : List (List UInt8) := [[115, 101, 108, 101, 99, 116], [100, 105, 115, 116, 105, 110, 99, 116], [102, 114, 111, 109], [106, 111, 105, 110], [111, 110], [119, 104, 101, 114, 101], [103, 114, 111, 117, 112], [98, 121], [104, 97, 118, 105, 110, 103], [111, 114, 100, 101, 114], [97, 115, 99], [100, 101, 115, 99], [108, 105, 109, 105, 116], [111, 102, 102, 115, 101, 116], [97, 115], [105, 110, 115, 101, 114, 116], [105, 110, 116, 111], [118, 97, 108, 117, 101, 115], [117, 112, 100, 97, 116, 101], [115, 101, 116], [100, 101, 108, 101, 116, 101], [99, 114, 101, 97, 116, 101], [116, 97, 98, 108, 101], [117, 110, 105, 113, 117, 101], [105, 110, 100, 101, 120], [100, 114, 111, 112], [110, 111, 116], [110, 117, 108, 108], [105, 115], [97, 110, 100], [111, 114], [116, 114, 117, 101], [102, 97, 108, 115, 101], [98, 101, 103, 105, 110], [99, 111, 109, 109, 105, 116], [114, 111, 108, 108, 98, 97, 99, 107], [116, 111], [115, 97, 118, 101, 112, 111, 105, 110, 116], [114, 101, 108, 101, 97, 115, 101], [105, 110, 116], [116, 101, 120, 116], [98, 108, 111, 98], [98, 111, 111, 108]]
def kw (l : List UInt8) : Bool := kws.any fun x => l == x
theorem kw_mem {l x : List UInt8} (h : (l == x) = true) (hx : x ∈ kws) : true = kw l := (List.any_eq_true.2 ⟨x, hx, h⟩).symm
theorem kw_none {l : List UInt8} (h0 : (l == [115, 101, 108, 101, 99, 116]) = false) (h1 : (l == [100, 105, 115, 116, 105, 110, 99, 116]) = false) (h2 : (l == [102, 114, 111, 109]) = false) (h3 : (l == [106, 111, 105, 110]) = false) (h4 : (l == [111, 110]) = false) (h5 : (l == [119, 104, 101, 114, 101]) = false) (h6 : (l == [103, 114, 111, 117, 112]) = false) (h7 : (l == [98, 121]) = false) (h8 : (l == [104, 97, 118, 105, 110, 103]) = false) (h9 : (l == [111, 114, 100, 101, 114]) = false) (h10 : (l == [97, 115, 99]) = false) (h11 : (l == [100, 101, 115, 99]) = false) (h12 : (l == [108, 105, 109, 105, 116]) = false) (h13 : (l == [111, 102, 102, 115, 101, 116]) = false) (h14 : (l == [97, 115]) = false) (h15 : (l == [105, 110, 115, 101, 114, 116]) = false) (h16 : (l == [105, 110, 116, 111]) = false) (h17 : (l == [118, 97, 108, 117, 101, 115]) = false) (h18 : (l == [117, 112, 100, 97, 116, 101]) = false) (h19 : (l == [115, 101, 116]) = false) (h20 : (l == [100, 101, 108, 101, 116, 101]) = false) (h21 : (l == [99, 114, 101, 97, 116, 101]) = false) (h22 : (l == [116, 97, 98, 108, 101]) = false) (h23 : (l == [117, 110, 105, 113, 117, 101]) = false) (h24 : (l == [105, 110, 100, 101, 120]) = false) (h25 : (l == [100, 114, 111, 112]) = false) (h26 : (l == [110, 111, 116]) = false) (h27 : (l == [110, 117, 108, 108]) = false) (h28 : (l == [105, 115]) = false) (h29 : (l == [97, 110, 100]) = false) (h30 : (l == [111, 114]) = false) (h31 : (l == [116, 114, 117, 101]) = false) (h32 : (l == [102, 97, 108, 115, 101]) = false) (h33 : (l == [98, 101, 103, 105, 110]) = false) (h34 : (l == [99, 111, 109, 109, 105, 116]) = false) (h35 : (l == [114, 111, 108, 108, 98, 97, 99, 107]) = false) (h36 : (l == [116, 111]) = false) (h37 : (l == [115, 97, 118, 101, 112, 111, 105, 110, 116]) = false) (h38 : (l == [114, 101, 108, 101, 97, 115, 101]) = false) (h39 : (l == [105, 110, 116]) = false) (h40 : (l == [116, 101, 120, 116]) = false) (h41 : (l == [98, 108, 111, 98]) = false) (h42 : (l == [98, 111, 111, 108]) = false) : false = kw l := by
  simp only [kw, kws, List.any_cons, List.any_nil, h0, h1, h2, h3, h4, h5, h6, h7, h8, h9, h10, h11, h12, h13, h14, h15, h16, h17, h18, h19, h20, h21, h22, h23, h24, h25, h26, h27, h28, h29, h30, h31, h32, h33, h34, h35, h36, h37, h38, h39, h40, h41, h42, Bool.or_false]

set_option maxHeartbeats 4000000 in
theorem keyword_any (s : ByteArray) (w : World) :
    Calls Tryd.prog 8 #[.string s] w fun e w' => e = .returned (.bool (kw s.data.toList)) ∧ w' = w := by
  obtain ⟨⟨l⟩⟩ := s
  show Calls _ _ _ _ fun e w' => e = .returned (.bool (kw l)) ∧ w' = w
  obtain ⟨K, HK⟩ : ∃ K, Hid (kw l = K) := ⟨_, rfl⟩
  rw [HK.out]
  go_enter Tryd.func8, Tryd.ntmps8
  go_wp2
  all_goals go_ret
  all_goals first
    | (exfalso; rename_i a b; exact absurd (a.symm.trans b) (by decide))
    | (exact ⟨congrArg (fun b => Ending.returned (.bool b)) ((kw_mem (by assumption) (by decide +kernel)).trans HK.out), rfl⟩)
    | (exact ⟨congrArg (fun b => Ending.returned (.bool b)) ((kw_none (by assumption) (by assumption) (by assumption) (by assumption) (by assumption) (by assumption) (by assumption) (by assumption) (by assumption) (by assumption) (by assumption) (by assumption) (by assumption) (by assumption) (by assumption) (by assumption) (by assumption) (by assumption) (by assumption) (by assumption) (by assumption) (by assumption) (by assumption) (by assumption) (by assumption) (by assumption) (by assumption) (by assumption) (by assumption) (by assumption) (by assumption) (by assumption) (by assumption) (by assumption) (by assumption) (by assumption) (by assumption) (by assumption) (by assumption) (by assumption) (by assumption) (by assumption) (by assumption)).trans HK.out), rfl⟩)

theorem rkeyword_none (l : List UInt8) (w : World) (hk : kw l = false) :
    Calls Tryd.prog 9 #[.string ⟨⟨l⟩⟩] w fun e w' => e = .returned (.bool false) ∧ w' = w := by
  simp only [kw, kws, List.any_cons, Bool.or_eq_false_iff] at hk
  obtain ⟨h0, h1, h2, h3, h4, h5, h6, h7, h8, h9, h10, h11, h12, h13, h14, h15, h16, h17, h18, h19, h20, h21, h22, h23, h24, h25, h26, h27, h28, h29, h30, h31, h32, h33, h34, h35, h36, h37, h38, h39, h40, h41, h42, _⟩ := hk
  go_enter Tryd.func9, Tryd.ntmps9
  go_wp2
  go_ret
  exact ⟨rfl, rfl⟩

set_option maxHeartbeats 4000000 in
theorem rkeyword_some (l : List UInt8) (w : World) (hx : l ∈ kws) :
    Calls Tryd.prog 9 #[.string ⟨⟨l⟩⟩] w fun e w' => e = .returned (.bool true) ∧ w' = w := by
  simp only [kws, List.mem_cons, List.not_mem_nil, or_false] at hx
  rcases hx with rfl | rfl | rfl | rfl | rfl | rfl | rfl | rfl | rfl | rfl | rfl | rfl | rfl | rfl | rfl | rfl | rfl | rfl | rfl | rfl | rfl | rfl | rfl | rfl | rfl | rfl | rfl | rfl | rfl | rfl | rfl | rfl | rfl | rfl | rfl | rfl | rfl | rfl | rfl | rfl | rfl | rfl | rfl
  all_goals (
    go_enter Tryd.func9, Tryd.ntmps9
    go_wp2
    go_ret
    exact ⟨rfl, rfl⟩)

theorem rkeyword_any (s : ByteArray) (w : World) :
    Calls Tryd.prog 9 #[.string s] w fun e w' => e = .returned (.bool (kw s.data.toList)) ∧ w' = w := by
  obtain ⟨⟨l⟩⟩ := s
  show Calls _ _ _ _ fun e w' => e = .returned (.bool (kw l)) ∧ w' = w
  cases hk : kw l
  · exact rkeyword_none l w hk
  · obtain ⟨x, hx, he⟩ := List.any_eq_true.1 hk
    obtain rfl : l = x := by simpa using he
    exact rkeyword_some l w hx

end Go.Proofs.YtkokpimabocobaaDoor
