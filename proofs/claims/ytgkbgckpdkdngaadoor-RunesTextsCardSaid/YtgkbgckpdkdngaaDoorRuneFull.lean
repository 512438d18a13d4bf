/- What FullRuneInString of package unicode/utf8 returns, for every string but the empty one, as a walk through the translated text. Conditions: the two tables of unicode/utf8 hold what their text lays. -/
import Derived.Test.YtgkbgckpdkdngaaDoorRuneFeed
import Derived.Test.YtgkbgckpdkdngaaDoorRegs
import Derived.Test.YtgkbgckpdkdngaaDoorShelf
set_option linter.unusedVariables false
namespace Go.Proofs.YtgkbgckpdkdngaaDoor
open Go.ChangeShapes Go.WideShapes Go.RowKit Go.Lib
/-- The two tables of unicode/utf8. -/
def Tabs (w : World) : Prop := Lib.Utf8Tabs 0 1 w
theorem Tabs.lt {w : World} (h : Tabs w) : 0 < w.heap.size ∧ 1 < w.heap.size := ⟨block_lt_of_cell (h.1 0 (by decide)), block_lt_of_cell (h.2 0 (by decide)).1⟩
theorem Tabs.keep {w w' : World} (h : Tabs w) (hb : Below w.heap.size w w') : Tabs w' :=
  ⟨fun c hc => (hb.cell h.lt.1).trans (h.1 c hc), fun i hi => ⟨(hb.cell h.lt.2).trans (h.2 i hi).1, (hb.cell h.lt.2).trans (h.2 i hi).2⟩⟩
theorem Tabs.of_heap {w w' : World} (h : Tabs w) (e : w'.heap = w.heap) : Tabs w' :=
  ⟨fun c hc => by rw [← h.1 c hc]; exact World.cell?_of_block (by rw [e]), fun i hi => ⟨by rw [← (h.2 i hi).1]; exact World.cell?_of_block (by rw [e]), by rw [← (h.2 i hi).2]; exact World.cell?_of_block (by rw [e])⟩⟩
theorem Tabs.only {w w' : World} {g : Nat} (h : Tabs w) (hg : w.grownBy w' (some g)) (h1 : g ≠ 0) (h2 : g ≠ 1) : Tabs w' := by
  have e1 := hg.block _ h.lt.1 (fun e => h1 (Option.some.inj e).symm)
  have e2 := hg.block _ h.lt.2 (fun e => h2 (Option.some.inj e).symm)
  exact ⟨fun c hc => by rw [← h.1 c hc]; exact World.cell?_of_block e1, fun i hi => ⟨by rw [← (h.2 i hi).1]; exact World.cell?_of_block e2, by rw [← (h.2 i hi).2]; exact World.cell?_of_block e2⟩⟩
theorem dec_strL (s : ByteArray) (h : 0 < s.size) : Lib.decodeGo s = decL (strL s) := by
  rw [Lib.decodeGo, if_neg (by omega), Lib.decode_at, Nat.sub_zero, decL, length_strL, strL_get!, strL_get!, strL_get!, strL_get!]
theorem dec_strL_at (s : ByteArray) (i : Nat) : Utf8.decode s i = decL ((strL s).drop i) := by
  rw [Lib.decode_at, decL, List.length_drop, length_strL, strL_get!, strL_get!, strL_get!, strL_get!]
  simp [List.getD_eq_getElem?_getD, List.getElem?_drop]
/-- The string's bytes by their places. -/
def fullN (n x0 x1 x2 : Nat) : Bool := decide (n ≠ 0 ∧ (firstT x0 % 8 ≤ n ∨ (1 < n ∧ (x1 < accLo (firstT x0 / 16) ∨ accHi (firstT x0 / 16) < x1)) ∨ (2 < n ∧ (x2 < 128 ∨ 191 < x2))))
theorem full_strL (s : ByteArray) : fullB (strL s) = fullN s.size (s.get! 0).toNat (s.get! 1).toNat (s.get! 2).toNat := by
  rw [fullB, fullN, length_strL, strL_get!, strL_get!, strL_get!]
theorem full_yes (n x0 x1 x2 : Nat) (hn : n ≠ 0) (h : firstT x0 % 8 ≤ n ∨ (1 < n ∧ (x1 < accLo (firstT x0 / 16) ∨ accHi (firstT x0 / 16) < x1)) ∨ (2 < n ∧ (x2 < 128 ∨ 191 < x2))) : fullN n x0 x1 x2 = true := by rw [fullN, decide_eq_true_eq]; exact ⟨hn, h⟩
theorem full_not (n x0 x1 x2 : Nat) (h : ¬ (firstT x0 % 8 ≤ n ∨ (1 < n ∧ (x1 < accLo (firstT x0 / 16) ∨ accHi (firstT x0 / 16) < x1)) ∨ (2 < n ∧ (x2 < 128 ∨ 191 < x2)))) : fullN n x0 x1 x2 = false := by rw [fullN, decide_eq_false_iff_not]; exact fun k => h k.2
def FullPost (w : World) (b : Bool) (en : Ending) (w' : World) : Prop := en = .returned (.bool b) ∧ Below w.heap.size w w'
set_option maxHeartbeats 1600000 in
set_option maxRecDepth 100000 in
theorem full_fast240 (s : ByteArray) (w : World) (hT : Tabs w) (h0 : 0 < s.size) (hX : firstT (s.get! 0).toNat = 240) (hn : 0 ≤ s.size) : Calls Tryd.prog 26 #[.string s] w (FullPost w true) := by
  have hc0 := hT.1 (s.get! 0).toNat (by have := (s.get! 0).toNat_lt; omega)
  rw [hX] at hc0
  obtain ⟨x0, hx0⟩ : ∃ x0, s.get! 0 = x0 := ⟨_, rfl⟩
  have hs0 : s[0]'(by omega) = x0 := by rw [← hx0]; exact (Utf8W.get!_of_lt s 0 (by omega)).symm
  rw [hx0] at hc0
  have l0 : (x0.toNat : Int) < 256 := by have := x0.toNat_lt; omega
  have hz : (0 : Int) < (s.size : Int) := by omega
  have hz1 : (s.size == 0) = false := by simpa using (by omega : s.size ≠ 0)
  have hz2 : ((s.size : Int) == 0) = false := by simpa using (by omega : s.size ≠ 0)
  have hz3 : (0 : Int) ≤ (s.size : Int) := by omega
  have hz4 : decide ((0 : Int) ≤ (s.size : Int)) = true := decide_eq_true hz3
  clear hT hX hx0 hn
  go_enter Tryd.func26, Tryd.ntmps26
  go_wp2
  go_ret
  exact ⟨rfl, Below.refl _ _⟩
set_option maxHeartbeats 1600000 in
set_option maxRecDepth 100000 in
theorem full_fast241 (s : ByteArray) (w : World) (hT : Tabs w) (h0 : 0 < s.size) (hX : firstT (s.get! 0).toNat = 241) (hn : 1 ≤ s.size) : Calls Tryd.prog 26 #[.string s] w (FullPost w true) := by
  have hc0 := hT.1 (s.get! 0).toNat (by have := (s.get! 0).toNat_lt; omega)
  rw [hX] at hc0
  obtain ⟨x0, hx0⟩ : ∃ x0, s.get! 0 = x0 := ⟨_, rfl⟩
  have hs0 : s[0]'(by omega) = x0 := by rw [← hx0]; exact (Utf8W.get!_of_lt s 0 (by omega)).symm
  rw [hx0] at hc0
  have l0 : (x0.toNat : Int) < 256 := by have := x0.toNat_lt; omega
  have hz : (0 : Int) < (s.size : Int) := by omega
  have hz1 : (s.size == 0) = false := by simpa using (by omega : s.size ≠ 0)
  have hz2 : ((s.size : Int) == 0) = false := by simpa using (by omega : s.size ≠ 0)
  have hz3 : (1 : Int) ≤ (s.size : Int) := by omega
  have hz4 : decide ((1 : Int) ≤ (s.size : Int)) = true := decide_eq_true hz3
  clear hT hX hx0 hn
  go_enter Tryd.func26, Tryd.ntmps26
  go_wp2
  go_ret
  exact ⟨rfl, Below.refl _ _⟩
set_option maxHeartbeats 1600000 in
set_option maxRecDepth 100000 in
theorem full_fast2 (s : ByteArray) (w : World) (hT : Tabs w) (h0 : 0 < s.size) (hX : firstT (s.get! 0).toNat = 2) (hn : 2 ≤ s.size) : Calls Tryd.prog 26 #[.string s] w (FullPost w true) := by
  have hc0 := hT.1 (s.get! 0).toNat (by have := (s.get! 0).toNat_lt; omega)
  rw [hX] at hc0
  obtain ⟨x0, hx0⟩ : ∃ x0, s.get! 0 = x0 := ⟨_, rfl⟩
  have hs0 : s[0]'(by omega) = x0 := by rw [← hx0]; exact (Utf8W.get!_of_lt s 0 (by omega)).symm
  rw [hx0] at hc0
  have l0 : (x0.toNat : Int) < 256 := by have := x0.toNat_lt; omega
  have hz : (0 : Int) < (s.size : Int) := by omega
  have hz1 : (s.size == 0) = false := by simpa using (by omega : s.size ≠ 0)
  have hz2 : ((s.size : Int) == 0) = false := by simpa using (by omega : s.size ≠ 0)
  have hz3 : (2 : Int) ≤ (s.size : Int) := by omega
  have hz4 : decide ((2 : Int) ≤ (s.size : Int)) = true := decide_eq_true hz3
  clear hT hX hx0 hn
  go_enter Tryd.func26, Tryd.ntmps26
  go_wp2
  go_ret
  exact ⟨rfl, Below.refl _ _⟩
set_option maxHeartbeats 1600000 in
set_option maxRecDepth 100000 in
theorem full_fast19 (s : ByteArray) (w : World) (hT : Tabs w) (h0 : 0 < s.size) (hX : firstT (s.get! 0).toNat = 19) (hn : 3 ≤ s.size) : Calls Tryd.prog 26 #[.string s] w (FullPost w true) := by
  have hc0 := hT.1 (s.get! 0).toNat (by have := (s.get! 0).toNat_lt; omega)
  rw [hX] at hc0
  obtain ⟨x0, hx0⟩ : ∃ x0, s.get! 0 = x0 := ⟨_, rfl⟩
  have hs0 : s[0]'(by omega) = x0 := by rw [← hx0]; exact (Utf8W.get!_of_lt s 0 (by omega)).symm
  rw [hx0] at hc0
  have l0 : (x0.toNat : Int) < 256 := by have := x0.toNat_lt; omega
  have hz : (0 : Int) < (s.size : Int) := by omega
  have hz1 : (s.size == 0) = false := by simpa using (by omega : s.size ≠ 0)
  have hz2 : ((s.size : Int) == 0) = false := by simpa using (by omega : s.size ≠ 0)
  have hz3 : (3 : Int) ≤ (s.size : Int) := by omega
  have hz4 : decide ((3 : Int) ≤ (s.size : Int)) = true := decide_eq_true hz3
  clear hT hX hx0 hn
  go_enter Tryd.func26, Tryd.ntmps26
  go_wp2
  go_ret
  exact ⟨rfl, Below.refl _ _⟩
set_option maxHeartbeats 1600000 in
set_option maxRecDepth 100000 in
theorem full_fast3 (s : ByteArray) (w : World) (hT : Tabs w) (h0 : 0 < s.size) (hX : firstT (s.get! 0).toNat = 3) (hn : 3 ≤ s.size) : Calls Tryd.prog 26 #[.string s] w (FullPost w true) := by
  have hc0 := hT.1 (s.get! 0).toNat (by have := (s.get! 0).toNat_lt; omega)
  rw [hX] at hc0
  obtain ⟨x0, hx0⟩ : ∃ x0, s.get! 0 = x0 := ⟨_, rfl⟩
  have hs0 : s[0]'(by omega) = x0 := by rw [← hx0]; exact (Utf8W.get!_of_lt s 0 (by omega)).symm
  rw [hx0] at hc0
  have l0 : (x0.toNat : Int) < 256 := by have := x0.toNat_lt; omega
  have hz : (0 : Int) < (s.size : Int) := by omega
  have hz1 : (s.size == 0) = false := by simpa using (by omega : s.size ≠ 0)
  have hz2 : ((s.size : Int) == 0) = false := by simpa using (by omega : s.size ≠ 0)
  have hz3 : (3 : Int) ≤ (s.size : Int) := by omega
  have hz4 : decide ((3 : Int) ≤ (s.size : Int)) = true := decide_eq_true hz3
  clear hT hX hx0 hn
  go_enter Tryd.func26, Tryd.ntmps26
  go_wp2
  go_ret
  exact ⟨rfl, Below.refl _ _⟩
set_option maxHeartbeats 1600000 in
set_option maxRecDepth 100000 in
theorem full_fast35 (s : ByteArray) (w : World) (hT : Tabs w) (h0 : 0 < s.size) (hX : firstT (s.get! 0).toNat = 35) (hn : 3 ≤ s.size) : Calls Tryd.prog 26 #[.string s] w (FullPost w true) := by
  have hc0 := hT.1 (s.get! 0).toNat (by have := (s.get! 0).toNat_lt; omega)
  rw [hX] at hc0
  obtain ⟨x0, hx0⟩ : ∃ x0, s.get! 0 = x0 := ⟨_, rfl⟩
  have hs0 : s[0]'(by omega) = x0 := by rw [← hx0]; exact (Utf8W.get!_of_lt s 0 (by omega)).symm
  rw [hx0] at hc0
  have l0 : (x0.toNat : Int) < 256 := by have := x0.toNat_lt; omega
  have hz : (0 : Int) < (s.size : Int) := by omega
  have hz1 : (s.size == 0) = false := by simpa using (by omega : s.size ≠ 0)
  have hz2 : ((s.size : Int) == 0) = false := by simpa using (by omega : s.size ≠ 0)
  have hz3 : (3 : Int) ≤ (s.size : Int) := by omega
  have hz4 : decide ((3 : Int) ≤ (s.size : Int)) = true := decide_eq_true hz3
  clear hT hX hx0 hn
  go_enter Tryd.func26, Tryd.ntmps26
  go_wp2
  go_ret
  exact ⟨rfl, Below.refl _ _⟩
set_option maxHeartbeats 1600000 in
set_option maxRecDepth 100000 in
theorem full_fast52 (s : ByteArray) (w : World) (hT : Tabs w) (h0 : 0 < s.size) (hX : firstT (s.get! 0).toNat = 52) (hn : 4 ≤ s.size) : Calls Tryd.prog 26 #[.string s] w (FullPost w true) := by
  have hc0 := hT.1 (s.get! 0).toNat (by have := (s.get! 0).toNat_lt; omega)
  rw [hX] at hc0
  obtain ⟨x0, hx0⟩ : ∃ x0, s.get! 0 = x0 := ⟨_, rfl⟩
  have hs0 : s[0]'(by omega) = x0 := by rw [← hx0]; exact (Utf8W.get!_of_lt s 0 (by omega)).symm
  rw [hx0] at hc0
  have l0 : (x0.toNat : Int) < 256 := by have := x0.toNat_lt; omega
  have hz : (0 : Int) < (s.size : Int) := by omega
  have hz1 : (s.size == 0) = false := by simpa using (by omega : s.size ≠ 0)
  have hz2 : ((s.size : Int) == 0) = false := by simpa using (by omega : s.size ≠ 0)
  have hz3 : (4 : Int) ≤ (s.size : Int) := by omega
  have hz4 : decide ((4 : Int) ≤ (s.size : Int)) = true := decide_eq_true hz3
  clear hT hX hx0 hn
  go_enter Tryd.func26, Tryd.ntmps26
  go_wp2
  go_ret
  exact ⟨rfl, Below.refl _ _⟩
set_option maxHeartbeats 1600000 in
set_option maxRecDepth 100000 in
theorem full_fast4 (s : ByteArray) (w : World) (hT : Tabs w) (h0 : 0 < s.size) (hX : firstT (s.get! 0).toNat = 4) (hn : 4 ≤ s.size) : Calls Tryd.prog 26 #[.string s] w (FullPost w true) := by
  have hc0 := hT.1 (s.get! 0).toNat (by have := (s.get! 0).toNat_lt; omega)
  rw [hX] at hc0
  obtain ⟨x0, hx0⟩ : ∃ x0, s.get! 0 = x0 := ⟨_, rfl⟩
  have hs0 : s[0]'(by omega) = x0 := by rw [← hx0]; exact (Utf8W.get!_of_lt s 0 (by omega)).symm
  rw [hx0] at hc0
  have l0 : (x0.toNat : Int) < 256 := by have := x0.toNat_lt; omega
  have hz : (0 : Int) < (s.size : Int) := by omega
  have hz1 : (s.size == 0) = false := by simpa using (by omega : s.size ≠ 0)
  have hz2 : ((s.size : Int) == 0) = false := by simpa using (by omega : s.size ≠ 0)
  have hz3 : (4 : Int) ≤ (s.size : Int) := by omega
  have hz4 : decide ((4 : Int) ≤ (s.size : Int)) = true := decide_eq_true hz3
  clear hT hX hx0 hn
  go_enter Tryd.func26, Tryd.ntmps26
  go_wp2
  go_ret
  exact ⟨rfl, Below.refl _ _⟩
set_option maxHeartbeats 1600000 in
set_option maxRecDepth 100000 in
theorem full_fast68 (s : ByteArray) (w : World) (hT : Tabs w) (h0 : 0 < s.size) (hX : firstT (s.get! 0).toNat = 68) (hn : 4 ≤ s.size) : Calls Tryd.prog 26 #[.string s] w (FullPost w true) := by
  have hc0 := hT.1 (s.get! 0).toNat (by have := (s.get! 0).toNat_lt; omega)
  rw [hX] at hc0
  obtain ⟨x0, hx0⟩ : ∃ x0, s.get! 0 = x0 := ⟨_, rfl⟩
  have hs0 : s[0]'(by omega) = x0 := by rw [← hx0]; exact (Utf8W.get!_of_lt s 0 (by omega)).symm
  rw [hx0] at hc0
  have l0 : (x0.toNat : Int) < 256 := by have := x0.toNat_lt; omega
  have hz : (0 : Int) < (s.size : Int) := by omega
  have hz1 : (s.size == 0) = false := by simpa using (by omega : s.size ≠ 0)
  have hz2 : ((s.size : Int) == 0) = false := by simpa using (by omega : s.size ≠ 0)
  have hz3 : (4 : Int) ≤ (s.size : Int) := by omega
  have hz4 : decide ((4 : Int) ≤ (s.size : Int)) = true := decide_eq_true hz3
  clear hT hX hx0 hn
  go_enter Tryd.func26, Tryd.ntmps26
  go_wp2
  go_ret
  exact ⟨rfl, Below.refl _ _⟩
set_option maxHeartbeats 1600000 in
set_option maxRecDepth 100000 in
theorem full_slow2_1 (s : ByteArray) (w : World) (hT : Tabs w) (h0 : s.size = 1) (hX : firstT (s.get! 0).toNat = 2) : Calls Tryd.prog 26 #[.string s] w (FullPost w false) := by
  have hc0 := hT.1 (s.get! 0).toNat (by have := (s.get! 0).toNat_lt; omega)
  rw [hX] at hc0
  have ha0 := (hT.2 0 (by omega)).1
  have ha1 := (hT.2 0 (by omega)).2
  simp only [accLo, accHi, Nat.reduceMul, Nat.reduceAdd, Nat.reduceEqDiff, if_true, if_false] at ha0 ha1
  obtain ⟨x0, hx0⟩ : ∃ x0, s.get! 0 = x0 := ⟨_, rfl⟩
  have hs0 : s[0]'(by omega) = x0 := by rw [← hx0]; exact (Utf8W.get!_of_lt s 0 (by omega)).symm
  rw [hx0] at hc0
  have l0 : (x0.toNat : Int) < 256 := by have := x0.toNat_lt; omega
  clear hT hX hx0
  go_enter Tryd.func26, Tryd.ntmps26
  go_wp2
  go_quiet (fail)
  go_wp2
  go_ret
  exact ⟨rfl, belowDrewN ((Below.refl _ _).alloc (Nat.le_refl _) _) _⟩
set_option maxHeartbeats 1600000 in
set_option maxRecDepth 100000 in
theorem full_slow19_1 (s : ByteArray) (w : World) (hT : Tabs w) (h0 : s.size = 1) (hX : firstT (s.get! 0).toNat = 19) : Calls Tryd.prog 26 #[.string s] w (FullPost w false) := by
  have hc0 := hT.1 (s.get! 0).toNat (by have := (s.get! 0).toNat_lt; omega)
  rw [hX] at hc0
  have ha0 := (hT.2 1 (by omega)).1
  have ha1 := (hT.2 1 (by omega)).2
  simp only [accLo, accHi, Nat.reduceMul, Nat.reduceAdd, Nat.reduceEqDiff, if_true, if_false] at ha0 ha1
  obtain ⟨x0, hx0⟩ : ∃ x0, s.get! 0 = x0 := ⟨_, rfl⟩
  have hs0 : s[0]'(by omega) = x0 := by rw [← hx0]; exact (Utf8W.get!_of_lt s 0 (by omega)).symm
  rw [hx0] at hc0
  have l0 : (x0.toNat : Int) < 256 := by have := x0.toNat_lt; omega
  clear hT hX hx0
  go_enter Tryd.func26, Tryd.ntmps26
  go_wp2
  go_quiet (fail)
  go_wp2
  go_ret
  exact ⟨rfl, belowDrewN ((Below.refl _ _).alloc (Nat.le_refl _) _) _⟩
set_option maxHeartbeats 1600000 in
set_option maxRecDepth 100000 in
theorem full_slow19_2a (s : ByteArray) (w : World) (hT : Tabs w) (h0 : s.size = 2) (hX : firstT (s.get! 0).toNat = 19) (k0 : (s.get! 1).toNat < 160) : Calls Tryd.prog 26 #[.string s] w (FullPost w true) := by
  have hc0 := hT.1 (s.get! 0).toNat (by have := (s.get! 0).toNat_lt; omega)
  rw [hX] at hc0
  have ha0 := (hT.2 1 (by omega)).1
  have ha1 := (hT.2 1 (by omega)).2
  simp only [accLo, accHi, Nat.reduceMul, Nat.reduceAdd, Nat.reduceEqDiff, if_true, if_false] at ha0 ha1
  obtain ⟨x0, hx0⟩ : ∃ x0, s.get! 0 = x0 := ⟨_, rfl⟩
  have hs0 : s[0]'(by omega) = x0 := by rw [← hx0]; exact (Utf8W.get!_of_lt s 0 (by omega)).symm
  obtain ⟨x1, hx1⟩ : ∃ x1, s.get! 1 = x1 := ⟨_, rfl⟩
  have hs1 : s[1]'(by omega) = x1 := by rw [← hx1]; exact (Utf8W.get!_of_lt s 1 (by omega)).symm
  rw [hx1] at k0
  have q0 : ((x1.toNat : Int) < (160 : Int)) = True := by simp; omega
  have r0 : decide ((x1.toNat : Int) < (160 : Int)) = true := by simp; omega
  clear k0 hx1
  rw [hx0] at hc0
  have l0 : (x0.toNat : Int) < 256 := by have := x0.toNat_lt; omega
  clear hT hX hx0
  go_enter Tryd.func26, Tryd.ntmps26
  go_wp2
  go_quiet (fail)
  go_wp2
  go_ret
  exact ⟨rfl, belowDrewN ((Below.refl _ _).alloc (Nat.le_refl _) _) _⟩
set_option maxHeartbeats 1600000 in
set_option maxRecDepth 100000 in
theorem full_slow19_2b (s : ByteArray) (w : World) (hT : Tabs w) (h0 : s.size = 2) (hX : firstT (s.get! 0).toNat = 19) (k0 : ¬ (s.get! 1).toNat < 160) (k1 : 191 < (s.get! 1).toNat) : Calls Tryd.prog 26 #[.string s] w (FullPost w true) := by
  have hc0 := hT.1 (s.get! 0).toNat (by have := (s.get! 0).toNat_lt; omega)
  rw [hX] at hc0
  have ha0 := (hT.2 1 (by omega)).1
  have ha1 := (hT.2 1 (by omega)).2
  simp only [accLo, accHi, Nat.reduceMul, Nat.reduceAdd, Nat.reduceEqDiff, if_true, if_false] at ha0 ha1
  obtain ⟨x0, hx0⟩ : ∃ x0, s.get! 0 = x0 := ⟨_, rfl⟩
  have hs0 : s[0]'(by omega) = x0 := by rw [← hx0]; exact (Utf8W.get!_of_lt s 0 (by omega)).symm
  obtain ⟨x1, hx1⟩ : ∃ x1, s.get! 1 = x1 := ⟨_, rfl⟩
  have hs1 : s[1]'(by omega) = x1 := by rw [← hx1]; exact (Utf8W.get!_of_lt s 1 (by omega)).symm
  rw [hx1] at k0 k1
  have q0 : ((x1.toNat : Int) < (160 : Int)) = False := by simp; omega
  have r0 : decide ((x1.toNat : Int) < (160 : Int)) = false := by simp; omega
  have q1 : ((191 : Int) < (x1.toNat : Int)) = True := by simp; omega
  have r1 : decide ((191 : Int) < (x1.toNat : Int)) = true := by simp; omega
  clear k0 k1 hx1
  rw [hx0] at hc0
  have l0 : (x0.toNat : Int) < 256 := by have := x0.toNat_lt; omega
  clear hT hX hx0
  go_enter Tryd.func26, Tryd.ntmps26
  go_wp2
  go_quiet (fail)
  go_wp2
  go_ret
  exact ⟨rfl, belowDrewN ((Below.refl _ _).alloc (Nat.le_refl _) _) _⟩
set_option maxHeartbeats 1600000 in
set_option maxRecDepth 100000 in
theorem full_slow19_2c (s : ByteArray) (w : World) (hT : Tabs w) (h0 : s.size = 2) (hX : firstT (s.get! 0).toNat = 19) (k0 : ¬ (s.get! 1).toNat < 160) (k1 : ¬ 191 < (s.get! 1).toNat) : Calls Tryd.prog 26 #[.string s] w (FullPost w false) := by
  have hc0 := hT.1 (s.get! 0).toNat (by have := (s.get! 0).toNat_lt; omega)
  rw [hX] at hc0
  have ha0 := (hT.2 1 (by omega)).1
  have ha1 := (hT.2 1 (by omega)).2
  simp only [accLo, accHi, Nat.reduceMul, Nat.reduceAdd, Nat.reduceEqDiff, if_true, if_false] at ha0 ha1
  obtain ⟨x0, hx0⟩ : ∃ x0, s.get! 0 = x0 := ⟨_, rfl⟩
  have hs0 : s[0]'(by omega) = x0 := by rw [← hx0]; exact (Utf8W.get!_of_lt s 0 (by omega)).symm
  obtain ⟨x1, hx1⟩ : ∃ x1, s.get! 1 = x1 := ⟨_, rfl⟩
  have hs1 : s[1]'(by omega) = x1 := by rw [← hx1]; exact (Utf8W.get!_of_lt s 1 (by omega)).symm
  rw [hx1] at k0 k1
  have q0 : ((x1.toNat : Int) < (160 : Int)) = False := by simp; omega
  have r0 : decide ((x1.toNat : Int) < (160 : Int)) = false := by simp; omega
  have q1 : ((191 : Int) < (x1.toNat : Int)) = False := by simp; omega
  have r1 : decide ((191 : Int) < (x1.toNat : Int)) = false := by simp; omega
  clear k0 k1 hx1
  rw [hx0] at hc0
  have l0 : (x0.toNat : Int) < 256 := by have := x0.toNat_lt; omega
  clear hT hX hx0
  go_enter Tryd.func26, Tryd.ntmps26
  go_wp2
  go_quiet (fail)
  go_wp2
  go_ret
  exact ⟨rfl, belowDrewN ((Below.refl _ _).alloc (Nat.le_refl _) _) _⟩
set_option maxHeartbeats 1600000 in
set_option maxRecDepth 100000 in
theorem full_slow3_1 (s : ByteArray) (w : World) (hT : Tabs w) (h0 : s.size = 1) (hX : firstT (s.get! 0).toNat = 3) : Calls Tryd.prog 26 #[.string s] w (FullPost w false) := by
  have hc0 := hT.1 (s.get! 0).toNat (by have := (s.get! 0).toNat_lt; omega)
  rw [hX] at hc0
  have ha0 := (hT.2 0 (by omega)).1
  have ha1 := (hT.2 0 (by omega)).2
  simp only [accLo, accHi, Nat.reduceMul, Nat.reduceAdd, Nat.reduceEqDiff, if_true, if_false] at ha0 ha1
  obtain ⟨x0, hx0⟩ : ∃ x0, s.get! 0 = x0 := ⟨_, rfl⟩
  have hs0 : s[0]'(by omega) = x0 := by rw [← hx0]; exact (Utf8W.get!_of_lt s 0 (by omega)).symm
  rw [hx0] at hc0
  have l0 : (x0.toNat : Int) < 256 := by have := x0.toNat_lt; omega
  clear hT hX hx0
  go_enter Tryd.func26, Tryd.ntmps26
  go_wp2
  go_quiet (fail)
  go_wp2
  go_ret
  exact ⟨rfl, belowDrewN ((Below.refl _ _).alloc (Nat.le_refl _) _) _⟩
set_option maxHeartbeats 1600000 in
set_option maxRecDepth 100000 in
theorem full_slow3_2a (s : ByteArray) (w : World) (hT : Tabs w) (h0 : s.size = 2) (hX : firstT (s.get! 0).toNat = 3) (k0 : (s.get! 1).toNat < 128) : Calls Tryd.prog 26 #[.string s] w (FullPost w true) := by
  have hc0 := hT.1 (s.get! 0).toNat (by have := (s.get! 0).toNat_lt; omega)
  rw [hX] at hc0
  have ha0 := (hT.2 0 (by omega)).1
  have ha1 := (hT.2 0 (by omega)).2
  simp only [accLo, accHi, Nat.reduceMul, Nat.reduceAdd, Nat.reduceEqDiff, if_true, if_false] at ha0 ha1
  obtain ⟨x0, hx0⟩ : ∃ x0, s.get! 0 = x0 := ⟨_, rfl⟩
  have hs0 : s[0]'(by omega) = x0 := by rw [← hx0]; exact (Utf8W.get!_of_lt s 0 (by omega)).symm
  obtain ⟨x1, hx1⟩ : ∃ x1, s.get! 1 = x1 := ⟨_, rfl⟩
  have hs1 : s[1]'(by omega) = x1 := by rw [← hx1]; exact (Utf8W.get!_of_lt s 1 (by omega)).symm
  rw [hx1] at k0
  have q0 : ((x1.toNat : Int) < (128 : Int)) = True := by simp; omega
  have r0 : decide ((x1.toNat : Int) < (128 : Int)) = true := by simp; omega
  clear k0 hx1
  rw [hx0] at hc0
  have l0 : (x0.toNat : Int) < 256 := by have := x0.toNat_lt; omega
  clear hT hX hx0
  go_enter Tryd.func26, Tryd.ntmps26
  go_wp2
  go_quiet (fail)
  go_wp2
  go_ret
  exact ⟨rfl, belowDrewN ((Below.refl _ _).alloc (Nat.le_refl _) _) _⟩
set_option maxHeartbeats 1600000 in
set_option maxRecDepth 100000 in
theorem full_slow3_2b (s : ByteArray) (w : World) (hT : Tabs w) (h0 : s.size = 2) (hX : firstT (s.get! 0).toNat = 3) (k0 : ¬ (s.get! 1).toNat < 128) (k1 : 191 < (s.get! 1).toNat) : Calls Tryd.prog 26 #[.string s] w (FullPost w true) := by
  have hc0 := hT.1 (s.get! 0).toNat (by have := (s.get! 0).toNat_lt; omega)
  rw [hX] at hc0
  have ha0 := (hT.2 0 (by omega)).1
  have ha1 := (hT.2 0 (by omega)).2
  simp only [accLo, accHi, Nat.reduceMul, Nat.reduceAdd, Nat.reduceEqDiff, if_true, if_false] at ha0 ha1
  obtain ⟨x0, hx0⟩ : ∃ x0, s.get! 0 = x0 := ⟨_, rfl⟩
  have hs0 : s[0]'(by omega) = x0 := by rw [← hx0]; exact (Utf8W.get!_of_lt s 0 (by omega)).symm
  obtain ⟨x1, hx1⟩ : ∃ x1, s.get! 1 = x1 := ⟨_, rfl⟩
  have hs1 : s[1]'(by omega) = x1 := by rw [← hx1]; exact (Utf8W.get!_of_lt s 1 (by omega)).symm
  rw [hx1] at k0 k1
  have q0 : ((x1.toNat : Int) < (128 : Int)) = False := by simp; omega
  have r0 : decide ((x1.toNat : Int) < (128 : Int)) = false := by simp; omega
  have q1 : ((191 : Int) < (x1.toNat : Int)) = True := by simp; omega
  have r1 : decide ((191 : Int) < (x1.toNat : Int)) = true := by simp; omega
  clear k0 k1 hx1
  rw [hx0] at hc0
  have l0 : (x0.toNat : Int) < 256 := by have := x0.toNat_lt; omega
  clear hT hX hx0
  go_enter Tryd.func26, Tryd.ntmps26
  go_wp2
  go_quiet (fail)
  go_wp2
  go_ret
  exact ⟨rfl, belowDrewN ((Below.refl _ _).alloc (Nat.le_refl _) _) _⟩
set_option maxHeartbeats 1600000 in
set_option maxRecDepth 100000 in
theorem full_slow3_2c (s : ByteArray) (w : World) (hT : Tabs w) (h0 : s.size = 2) (hX : firstT (s.get! 0).toNat = 3) (k0 : ¬ (s.get! 1).toNat < 128) (k1 : ¬ 191 < (s.get! 1).toNat) : Calls Tryd.prog 26 #[.string s] w (FullPost w false) := by
  have hc0 := hT.1 (s.get! 0).toNat (by have := (s.get! 0).toNat_lt; omega)
  rw [hX] at hc0
  have ha0 := (hT.2 0 (by omega)).1
  have ha1 := (hT.2 0 (by omega)).2
  simp only [accLo, accHi, Nat.reduceMul, Nat.reduceAdd, Nat.reduceEqDiff, if_true, if_false] at ha0 ha1
  obtain ⟨x0, hx0⟩ : ∃ x0, s.get! 0 = x0 := ⟨_, rfl⟩
  have hs0 : s[0]'(by omega) = x0 := by rw [← hx0]; exact (Utf8W.get!_of_lt s 0 (by omega)).symm
  obtain ⟨x1, hx1⟩ : ∃ x1, s.get! 1 = x1 := ⟨_, rfl⟩
  have hs1 : s[1]'(by omega) = x1 := by rw [← hx1]; exact (Utf8W.get!_of_lt s 1 (by omega)).symm
  rw [hx1] at k0 k1
  have q0 : ((x1.toNat : Int) < (128 : Int)) = False := by simp; omega
  have r0 : decide ((x1.toNat : Int) < (128 : Int)) = false := by simp; omega
  have q1 : ((191 : Int) < (x1.toNat : Int)) = False := by simp; omega
  have r1 : decide ((191 : Int) < (x1.toNat : Int)) = false := by simp; omega
  clear k0 k1 hx1
  rw [hx0] at hc0
  have l0 : (x0.toNat : Int) < 256 := by have := x0.toNat_lt; omega
  clear hT hX hx0
  go_enter Tryd.func26, Tryd.ntmps26
  go_wp2
  go_quiet (fail)
  go_wp2
  go_ret
  exact ⟨rfl, belowDrewN ((Below.refl _ _).alloc (Nat.le_refl _) _) _⟩
set_option maxHeartbeats 1600000 in
set_option maxRecDepth 100000 in
theorem full_slow35_1 (s : ByteArray) (w : World) (hT : Tabs w) (h0 : s.size = 1) (hX : firstT (s.get! 0).toNat = 35) : Calls Tryd.prog 26 #[.string s] w (FullPost w false) := by
  have hc0 := hT.1 (s.get! 0).toNat (by have := (s.get! 0).toNat_lt; omega)
  rw [hX] at hc0
  have ha0 := (hT.2 2 (by omega)).1
  have ha1 := (hT.2 2 (by omega)).2
  simp only [accLo, accHi, Nat.reduceMul, Nat.reduceAdd, Nat.reduceEqDiff, if_true, if_false] at ha0 ha1
  obtain ⟨x0, hx0⟩ : ∃ x0, s.get! 0 = x0 := ⟨_, rfl⟩
  have hs0 : s[0]'(by omega) = x0 := by rw [← hx0]; exact (Utf8W.get!_of_lt s 0 (by omega)).symm
  rw [hx0] at hc0
  have l0 : (x0.toNat : Int) < 256 := by have := x0.toNat_lt; omega
  clear hT hX hx0
  go_enter Tryd.func26, Tryd.ntmps26
  go_wp2
  go_quiet (fail)
  go_wp2
  go_ret
  exact ⟨rfl, belowDrewN ((Below.refl _ _).alloc (Nat.le_refl _) _) _⟩
set_option maxHeartbeats 1600000 in
set_option maxRecDepth 100000 in
theorem full_slow35_2a (s : ByteArray) (w : World) (hT : Tabs w) (h0 : s.size = 2) (hX : firstT (s.get! 0).toNat = 35) (k0 : (s.get! 1).toNat < 128) : Calls Tryd.prog 26 #[.string s] w (FullPost w true) := by
  have hc0 := hT.1 (s.get! 0).toNat (by have := (s.get! 0).toNat_lt; omega)
  rw [hX] at hc0
  have ha0 := (hT.2 2 (by omega)).1
  have ha1 := (hT.2 2 (by omega)).2
  simp only [accLo, accHi, Nat.reduceMul, Nat.reduceAdd, Nat.reduceEqDiff, if_true, if_false] at ha0 ha1
  obtain ⟨x0, hx0⟩ : ∃ x0, s.get! 0 = x0 := ⟨_, rfl⟩
  have hs0 : s[0]'(by omega) = x0 := by rw [← hx0]; exact (Utf8W.get!_of_lt s 0 (by omega)).symm
  obtain ⟨x1, hx1⟩ : ∃ x1, s.get! 1 = x1 := ⟨_, rfl⟩
  have hs1 : s[1]'(by omega) = x1 := by rw [← hx1]; exact (Utf8W.get!_of_lt s 1 (by omega)).symm
  rw [hx1] at k0
  have q0 : ((x1.toNat : Int) < (128 : Int)) = True := by simp; omega
  have r0 : decide ((x1.toNat : Int) < (128 : Int)) = true := by simp; omega
  clear k0 hx1
  rw [hx0] at hc0
  have l0 : (x0.toNat : Int) < 256 := by have := x0.toNat_lt; omega
  clear hT hX hx0
  go_enter Tryd.func26, Tryd.ntmps26
  go_wp2
  go_quiet (fail)
  go_wp2
  go_ret
  exact ⟨rfl, belowDrewN ((Below.refl _ _).alloc (Nat.le_refl _) _) _⟩
set_option maxHeartbeats 1600000 in
set_option maxRecDepth 100000 in
theorem full_slow35_2b (s : ByteArray) (w : World) (hT : Tabs w) (h0 : s.size = 2) (hX : firstT (s.get! 0).toNat = 35) (k0 : ¬ (s.get! 1).toNat < 128) (k1 : 159 < (s.get! 1).toNat) : Calls Tryd.prog 26 #[.string s] w (FullPost w true) := by
  have hc0 := hT.1 (s.get! 0).toNat (by have := (s.get! 0).toNat_lt; omega)
  rw [hX] at hc0
  have ha0 := (hT.2 2 (by omega)).1
  have ha1 := (hT.2 2 (by omega)).2
  simp only [accLo, accHi, Nat.reduceMul, Nat.reduceAdd, Nat.reduceEqDiff, if_true, if_false] at ha0 ha1
  obtain ⟨x0, hx0⟩ : ∃ x0, s.get! 0 = x0 := ⟨_, rfl⟩
  have hs0 : s[0]'(by omega) = x0 := by rw [← hx0]; exact (Utf8W.get!_of_lt s 0 (by omega)).symm
  obtain ⟨x1, hx1⟩ : ∃ x1, s.get! 1 = x1 := ⟨_, rfl⟩
  have hs1 : s[1]'(by omega) = x1 := by rw [← hx1]; exact (Utf8W.get!_of_lt s 1 (by omega)).symm
  rw [hx1] at k0 k1
  have q0 : ((x1.toNat : Int) < (128 : Int)) = False := by simp; omega
  have r0 : decide ((x1.toNat : Int) < (128 : Int)) = false := by simp; omega
  have q1 : ((159 : Int) < (x1.toNat : Int)) = True := by simp; omega
  have r1 : decide ((159 : Int) < (x1.toNat : Int)) = true := by simp; omega
  clear k0 k1 hx1
  rw [hx0] at hc0
  have l0 : (x0.toNat : Int) < 256 := by have := x0.toNat_lt; omega
  clear hT hX hx0
  go_enter Tryd.func26, Tryd.ntmps26
  go_wp2
  go_quiet (fail)
  go_wp2
  go_ret
  exact ⟨rfl, belowDrewN ((Below.refl _ _).alloc (Nat.le_refl _) _) _⟩
set_option maxHeartbeats 1600000 in
set_option maxRecDepth 100000 in
theorem full_slow35_2c (s : ByteArray) (w : World) (hT : Tabs w) (h0 : s.size = 2) (hX : firstT (s.get! 0).toNat = 35) (k0 : ¬ (s.get! 1).toNat < 128) (k1 : ¬ 159 < (s.get! 1).toNat) : Calls Tryd.prog 26 #[.string s] w (FullPost w false) := by
  have hc0 := hT.1 (s.get! 0).toNat (by have := (s.get! 0).toNat_lt; omega)
  rw [hX] at hc0
  have ha0 := (hT.2 2 (by omega)).1
  have ha1 := (hT.2 2 (by omega)).2
  simp only [accLo, accHi, Nat.reduceMul, Nat.reduceAdd, Nat.reduceEqDiff, if_true, if_false] at ha0 ha1
  obtain ⟨x0, hx0⟩ : ∃ x0, s.get! 0 = x0 := ⟨_, rfl⟩
  have hs0 : s[0]'(by omega) = x0 := by rw [← hx0]; exact (Utf8W.get!_of_lt s 0 (by omega)).symm
  obtain ⟨x1, hx1⟩ : ∃ x1, s.get! 1 = x1 := ⟨_, rfl⟩
  have hs1 : s[1]'(by omega) = x1 := by rw [← hx1]; exact (Utf8W.get!_of_lt s 1 (by omega)).symm
  rw [hx1] at k0 k1
  have q0 : ((x1.toNat : Int) < (128 : Int)) = False := by simp; omega
  have r0 : decide ((x1.toNat : Int) < (128 : Int)) = false := by simp; omega
  have q1 : ((159 : Int) < (x1.toNat : Int)) = False := by simp; omega
  have r1 : decide ((159 : Int) < (x1.toNat : Int)) = false := by simp; omega
  clear k0 k1 hx1
  rw [hx0] at hc0
  have l0 : (x0.toNat : Int) < 256 := by have := x0.toNat_lt; omega
  clear hT hX hx0
  go_enter Tryd.func26, Tryd.ntmps26
  go_wp2
  go_quiet (fail)
  go_wp2
  go_ret
  exact ⟨rfl, belowDrewN ((Below.refl _ _).alloc (Nat.le_refl _) _) _⟩
set_option maxHeartbeats 1600000 in
set_option maxRecDepth 100000 in
theorem full_slow52_1 (s : ByteArray) (w : World) (hT : Tabs w) (h0 : s.size = 1) (hX : firstT (s.get! 0).toNat = 52) : Calls Tryd.prog 26 #[.string s] w (FullPost w false) := by
  have hc0 := hT.1 (s.get! 0).toNat (by have := (s.get! 0).toNat_lt; omega)
  rw [hX] at hc0
  have ha0 := (hT.2 3 (by omega)).1
  have ha1 := (hT.2 3 (by omega)).2
  simp only [accLo, accHi, Nat.reduceMul, Nat.reduceAdd, Nat.reduceEqDiff, if_true, if_false] at ha0 ha1
  obtain ⟨x0, hx0⟩ : ∃ x0, s.get! 0 = x0 := ⟨_, rfl⟩
  have hs0 : s[0]'(by omega) = x0 := by rw [← hx0]; exact (Utf8W.get!_of_lt s 0 (by omega)).symm
  rw [hx0] at hc0
  have l0 : (x0.toNat : Int) < 256 := by have := x0.toNat_lt; omega
  clear hT hX hx0
  go_enter Tryd.func26, Tryd.ntmps26
  go_wp2
  go_quiet (fail)
  go_wp2
  go_ret
  exact ⟨rfl, belowDrewN ((Below.refl _ _).alloc (Nat.le_refl _) _) _⟩
set_option maxHeartbeats 1600000 in
set_option maxRecDepth 100000 in
theorem full_slow52_2a (s : ByteArray) (w : World) (hT : Tabs w) (h0 : s.size = 2) (hX : firstT (s.get! 0).toNat = 52) (k0 : (s.get! 1).toNat < 144) : Calls Tryd.prog 26 #[.string s] w (FullPost w true) := by
  have hc0 := hT.1 (s.get! 0).toNat (by have := (s.get! 0).toNat_lt; omega)
  rw [hX] at hc0
  have ha0 := (hT.2 3 (by omega)).1
  have ha1 := (hT.2 3 (by omega)).2
  simp only [accLo, accHi, Nat.reduceMul, Nat.reduceAdd, Nat.reduceEqDiff, if_true, if_false] at ha0 ha1
  obtain ⟨x0, hx0⟩ : ∃ x0, s.get! 0 = x0 := ⟨_, rfl⟩
  have hs0 : s[0]'(by omega) = x0 := by rw [← hx0]; exact (Utf8W.get!_of_lt s 0 (by omega)).symm
  obtain ⟨x1, hx1⟩ : ∃ x1, s.get! 1 = x1 := ⟨_, rfl⟩
  have hs1 : s[1]'(by omega) = x1 := by rw [← hx1]; exact (Utf8W.get!_of_lt s 1 (by omega)).symm
  rw [hx1] at k0
  have q0 : ((x1.toNat : Int) < (144 : Int)) = True := by simp; omega
  have r0 : decide ((x1.toNat : Int) < (144 : Int)) = true := by simp; omega
  clear k0 hx1
  rw [hx0] at hc0
  have l0 : (x0.toNat : Int) < 256 := by have := x0.toNat_lt; omega
  clear hT hX hx0
  go_enter Tryd.func26, Tryd.ntmps26
  go_wp2
  go_quiet (fail)
  go_wp2
  go_ret
  exact ⟨rfl, belowDrewN ((Below.refl _ _).alloc (Nat.le_refl _) _) _⟩
set_option maxHeartbeats 1600000 in
set_option maxRecDepth 100000 in
theorem full_slow52_2b (s : ByteArray) (w : World) (hT : Tabs w) (h0 : s.size = 2) (hX : firstT (s.get! 0).toNat = 52) (k0 : ¬ (s.get! 1).toNat < 144) (k1 : 191 < (s.get! 1).toNat) : Calls Tryd.prog 26 #[.string s] w (FullPost w true) := by
  have hc0 := hT.1 (s.get! 0).toNat (by have := (s.get! 0).toNat_lt; omega)
  rw [hX] at hc0
  have ha0 := (hT.2 3 (by omega)).1
  have ha1 := (hT.2 3 (by omega)).2
  simp only [accLo, accHi, Nat.reduceMul, Nat.reduceAdd, Nat.reduceEqDiff, if_true, if_false] at ha0 ha1
  obtain ⟨x0, hx0⟩ : ∃ x0, s.get! 0 = x0 := ⟨_, rfl⟩
  have hs0 : s[0]'(by omega) = x0 := by rw [← hx0]; exact (Utf8W.get!_of_lt s 0 (by omega)).symm
  obtain ⟨x1, hx1⟩ : ∃ x1, s.get! 1 = x1 := ⟨_, rfl⟩
  have hs1 : s[1]'(by omega) = x1 := by rw [← hx1]; exact (Utf8W.get!_of_lt s 1 (by omega)).symm
  rw [hx1] at k0 k1
  have q0 : ((x1.toNat : Int) < (144 : Int)) = False := by simp; omega
  have r0 : decide ((x1.toNat : Int) < (144 : Int)) = false := by simp; omega
  have q1 : ((191 : Int) < (x1.toNat : Int)) = True := by simp; omega
  have r1 : decide ((191 : Int) < (x1.toNat : Int)) = true := by simp; omega
  clear k0 k1 hx1
  rw [hx0] at hc0
  have l0 : (x0.toNat : Int) < 256 := by have := x0.toNat_lt; omega
  clear hT hX hx0
  go_enter Tryd.func26, Tryd.ntmps26
  go_wp2
  go_quiet (fail)
  go_wp2
  go_ret
  exact ⟨rfl, belowDrewN ((Below.refl _ _).alloc (Nat.le_refl _) _) _⟩
set_option maxHeartbeats 1600000 in
set_option maxRecDepth 100000 in
theorem full_slow52_2c (s : ByteArray) (w : World) (hT : Tabs w) (h0 : s.size = 2) (hX : firstT (s.get! 0).toNat = 52) (k0 : ¬ (s.get! 1).toNat < 144) (k1 : ¬ 191 < (s.get! 1).toNat) : Calls Tryd.prog 26 #[.string s] w (FullPost w false) := by
  have hc0 := hT.1 (s.get! 0).toNat (by have := (s.get! 0).toNat_lt; omega)
  rw [hX] at hc0
  have ha0 := (hT.2 3 (by omega)).1
  have ha1 := (hT.2 3 (by omega)).2
  simp only [accLo, accHi, Nat.reduceMul, Nat.reduceAdd, Nat.reduceEqDiff, if_true, if_false] at ha0 ha1
  obtain ⟨x0, hx0⟩ : ∃ x0, s.get! 0 = x0 := ⟨_, rfl⟩
  have hs0 : s[0]'(by omega) = x0 := by rw [← hx0]; exact (Utf8W.get!_of_lt s 0 (by omega)).symm
  obtain ⟨x1, hx1⟩ : ∃ x1, s.get! 1 = x1 := ⟨_, rfl⟩
  have hs1 : s[1]'(by omega) = x1 := by rw [← hx1]; exact (Utf8W.get!_of_lt s 1 (by omega)).symm
  rw [hx1] at k0 k1
  have q0 : ((x1.toNat : Int) < (144 : Int)) = False := by simp; omega
  have r0 : decide ((x1.toNat : Int) < (144 : Int)) = false := by simp; omega
  have q1 : ((191 : Int) < (x1.toNat : Int)) = False := by simp; omega
  have r1 : decide ((191 : Int) < (x1.toNat : Int)) = false := by simp; omega
  clear k0 k1 hx1
  rw [hx0] at hc0
  have l0 : (x0.toNat : Int) < 256 := by have := x0.toNat_lt; omega
  clear hT hX hx0
  go_enter Tryd.func26, Tryd.ntmps26
  go_wp2
  go_quiet (fail)
  go_wp2
  go_ret
  exact ⟨rfl, belowDrewN ((Below.refl _ _).alloc (Nat.le_refl _) _) _⟩
set_option maxHeartbeats 1600000 in
set_option maxRecDepth 100000 in
theorem full_slow52_3a (s : ByteArray) (w : World) (hT : Tabs w) (h0 : s.size = 3) (hX : firstT (s.get! 0).toNat = 52) (k0 : (s.get! 1).toNat < 144) : Calls Tryd.prog 26 #[.string s] w (FullPost w true) := by
  have hc0 := hT.1 (s.get! 0).toNat (by have := (s.get! 0).toNat_lt; omega)
  rw [hX] at hc0
  have ha0 := (hT.2 3 (by omega)).1
  have ha1 := (hT.2 3 (by omega)).2
  simp only [accLo, accHi, Nat.reduceMul, Nat.reduceAdd, Nat.reduceEqDiff, if_true, if_false] at ha0 ha1
  obtain ⟨x0, hx0⟩ : ∃ x0, s.get! 0 = x0 := ⟨_, rfl⟩
  have hs0 : s[0]'(by omega) = x0 := by rw [← hx0]; exact (Utf8W.get!_of_lt s 0 (by omega)).symm
  obtain ⟨x1, hx1⟩ : ∃ x1, s.get! 1 = x1 := ⟨_, rfl⟩
  have hs1 : s[1]'(by omega) = x1 := by rw [← hx1]; exact (Utf8W.get!_of_lt s 1 (by omega)).symm
  rw [hx1] at k0
  obtain ⟨x2, hx2⟩ : ∃ x2, s.get! 2 = x2 := ⟨_, rfl⟩
  have hs2 : s[2]'(by omega) = x2 := by rw [← hx2]; exact (Utf8W.get!_of_lt s 2 (by omega)).symm
  have q0 : ((x1.toNat : Int) < (144 : Int)) = True := by simp; omega
  have r0 : decide ((x1.toNat : Int) < (144 : Int)) = true := by simp; omega
  clear k0 hx1 hx2
  rw [hx0] at hc0
  have l0 : (x0.toNat : Int) < 256 := by have := x0.toNat_lt; omega
  clear hT hX hx0
  go_enter Tryd.func26, Tryd.ntmps26
  go_wp2
  go_quiet (fail)
  go_wp2
  go_ret
  exact ⟨rfl, belowDrewN ((Below.refl _ _).alloc (Nat.le_refl _) _) _⟩
set_option maxHeartbeats 1600000 in
set_option maxRecDepth 100000 in
theorem full_slow52_3b (s : ByteArray) (w : World) (hT : Tabs w) (h0 : s.size = 3) (hX : firstT (s.get! 0).toNat = 52) (k0 : ¬ (s.get! 1).toNat < 144) (k1 : 191 < (s.get! 1).toNat) : Calls Tryd.prog 26 #[.string s] w (FullPost w true) := by
  have hc0 := hT.1 (s.get! 0).toNat (by have := (s.get! 0).toNat_lt; omega)
  rw [hX] at hc0
  have ha0 := (hT.2 3 (by omega)).1
  have ha1 := (hT.2 3 (by omega)).2
  simp only [accLo, accHi, Nat.reduceMul, Nat.reduceAdd, Nat.reduceEqDiff, if_true, if_false] at ha0 ha1
  obtain ⟨x0, hx0⟩ : ∃ x0, s.get! 0 = x0 := ⟨_, rfl⟩
  have hs0 : s[0]'(by omega) = x0 := by rw [← hx0]; exact (Utf8W.get!_of_lt s 0 (by omega)).symm
  obtain ⟨x1, hx1⟩ : ∃ x1, s.get! 1 = x1 := ⟨_, rfl⟩
  have hs1 : s[1]'(by omega) = x1 := by rw [← hx1]; exact (Utf8W.get!_of_lt s 1 (by omega)).symm
  rw [hx1] at k0 k1
  obtain ⟨x2, hx2⟩ : ∃ x2, s.get! 2 = x2 := ⟨_, rfl⟩
  have hs2 : s[2]'(by omega) = x2 := by rw [← hx2]; exact (Utf8W.get!_of_lt s 2 (by omega)).symm
  have q0 : ((x1.toNat : Int) < (144 : Int)) = False := by simp; omega
  have r0 : decide ((x1.toNat : Int) < (144 : Int)) = false := by simp; omega
  have q1 : ((191 : Int) < (x1.toNat : Int)) = True := by simp; omega
  have r1 : decide ((191 : Int) < (x1.toNat : Int)) = true := by simp; omega
  clear k0 k1 hx1 hx2
  rw [hx0] at hc0
  have l0 : (x0.toNat : Int) < 256 := by have := x0.toNat_lt; omega
  clear hT hX hx0
  go_enter Tryd.func26, Tryd.ntmps26
  go_wp2
  go_quiet (fail)
  go_wp2
  go_ret
  exact ⟨rfl, belowDrewN ((Below.refl _ _).alloc (Nat.le_refl _) _) _⟩
set_option maxHeartbeats 1600000 in
set_option maxRecDepth 100000 in
theorem full_slow52_3c (s : ByteArray) (w : World) (hT : Tabs w) (h0 : s.size = 3) (hX : firstT (s.get! 0).toNat = 52) (k0 : ¬ (s.get! 1).toNat < 144) (k1 : ¬ 191 < (s.get! 1).toNat) (k2 : (s.get! 2).toNat < 128) : Calls Tryd.prog 26 #[.string s] w (FullPost w true) := by
  have hc0 := hT.1 (s.get! 0).toNat (by have := (s.get! 0).toNat_lt; omega)
  rw [hX] at hc0
  have ha0 := (hT.2 3 (by omega)).1
  have ha1 := (hT.2 3 (by omega)).2
  simp only [accLo, accHi, Nat.reduceMul, Nat.reduceAdd, Nat.reduceEqDiff, if_true, if_false] at ha0 ha1
  obtain ⟨x0, hx0⟩ : ∃ x0, s.get! 0 = x0 := ⟨_, rfl⟩
  have hs0 : s[0]'(by omega) = x0 := by rw [← hx0]; exact (Utf8W.get!_of_lt s 0 (by omega)).symm
  obtain ⟨x1, hx1⟩ : ∃ x1, s.get! 1 = x1 := ⟨_, rfl⟩
  have hs1 : s[1]'(by omega) = x1 := by rw [← hx1]; exact (Utf8W.get!_of_lt s 1 (by omega)).symm
  rw [hx1] at k0 k1
  obtain ⟨x2, hx2⟩ : ∃ x2, s.get! 2 = x2 := ⟨_, rfl⟩
  have hs2 : s[2]'(by omega) = x2 := by rw [← hx2]; exact (Utf8W.get!_of_lt s 2 (by omega)).symm
  rw [hx2] at k2
  have q0 : ((x1.toNat : Int) < (144 : Int)) = False := by simp; omega
  have r0 : decide ((x1.toNat : Int) < (144 : Int)) = false := by simp; omega
  have q1 : ((191 : Int) < (x1.toNat : Int)) = False := by simp; omega
  have r1 : decide ((191 : Int) < (x1.toNat : Int)) = false := by simp; omega
  have q2 : ((x2.toNat : Int) < (128 : Int)) = True := by simp; omega
  have r2 : decide ((x2.toNat : Int) < (128 : Int)) = true := by simp; omega
  clear k0 k1 k2 hx1 hx2
  rw [hx0] at hc0
  have l0 : (x0.toNat : Int) < 256 := by have := x0.toNat_lt; omega
  clear hT hX hx0
  go_enter Tryd.func26, Tryd.ntmps26
  go_wp2
  go_quiet (fail)
  go_wp2
  go_ret
  exact ⟨rfl, belowDrewN ((Below.refl _ _).alloc (Nat.le_refl _) _) _⟩
set_option maxHeartbeats 1600000 in
set_option maxRecDepth 100000 in
theorem full_slow52_3d (s : ByteArray) (w : World) (hT : Tabs w) (h0 : s.size = 3) (hX : firstT (s.get! 0).toNat = 52) (k0 : ¬ (s.get! 1).toNat < 144) (k1 : ¬ 191 < (s.get! 1).toNat) (k2 : ¬ (s.get! 2).toNat < 128) (k3 : 191 < (s.get! 2).toNat) : Calls Tryd.prog 26 #[.string s] w (FullPost w true) := by
  have hc0 := hT.1 (s.get! 0).toNat (by have := (s.get! 0).toNat_lt; omega)
  rw [hX] at hc0
  have ha0 := (hT.2 3 (by omega)).1
  have ha1 := (hT.2 3 (by omega)).2
  simp only [accLo, accHi, Nat.reduceMul, Nat.reduceAdd, Nat.reduceEqDiff, if_true, if_false] at ha0 ha1
  obtain ⟨x0, hx0⟩ : ∃ x0, s.get! 0 = x0 := ⟨_, rfl⟩
  have hs0 : s[0]'(by omega) = x0 := by rw [← hx0]; exact (Utf8W.get!_of_lt s 0 (by omega)).symm
  obtain ⟨x1, hx1⟩ : ∃ x1, s.get! 1 = x1 := ⟨_, rfl⟩
  have hs1 : s[1]'(by omega) = x1 := by rw [← hx1]; exact (Utf8W.get!_of_lt s 1 (by omega)).symm
  rw [hx1] at k0 k1
  obtain ⟨x2, hx2⟩ : ∃ x2, s.get! 2 = x2 := ⟨_, rfl⟩
  have hs2 : s[2]'(by omega) = x2 := by rw [← hx2]; exact (Utf8W.get!_of_lt s 2 (by omega)).symm
  rw [hx2] at k2 k3
  have q0 : ((x1.toNat : Int) < (144 : Int)) = False := by simp; omega
  have r0 : decide ((x1.toNat : Int) < (144 : Int)) = false := by simp; omega
  have q1 : ((191 : Int) < (x1.toNat : Int)) = False := by simp; omega
  have r1 : decide ((191 : Int) < (x1.toNat : Int)) = false := by simp; omega
  have q2 : ((x2.toNat : Int) < (128 : Int)) = False := by simp; omega
  have r2 : decide ((x2.toNat : Int) < (128 : Int)) = false := by simp; omega
  have q3 : ((191 : Int) < (x2.toNat : Int)) = True := by simp; omega
  have r3 : decide ((191 : Int) < (x2.toNat : Int)) = true := by simp; omega
  clear k0 k1 k2 k3 hx1 hx2
  rw [hx0] at hc0
  have l0 : (x0.toNat : Int) < 256 := by have := x0.toNat_lt; omega
  clear hT hX hx0
  go_enter Tryd.func26, Tryd.ntmps26
  go_wp2
  go_quiet (fail)
  go_wp2
  go_ret
  exact ⟨rfl, belowDrewN ((Below.refl _ _).alloc (Nat.le_refl _) _) _⟩
set_option maxHeartbeats 1600000 in
set_option maxRecDepth 100000 in
theorem full_slow52_3e (s : ByteArray) (w : World) (hT : Tabs w) (h0 : s.size = 3) (hX : firstT (s.get! 0).toNat = 52) (k0 : ¬ (s.get! 1).toNat < 144) (k1 : ¬ 191 < (s.get! 1).toNat) (k2 : ¬ (s.get! 2).toNat < 128) (k3 : ¬ 191 < (s.get! 2).toNat) : Calls Tryd.prog 26 #[.string s] w (FullPost w false) := by
  have hc0 := hT.1 (s.get! 0).toNat (by have := (s.get! 0).toNat_lt; omega)
  rw [hX] at hc0
  have ha0 := (hT.2 3 (by omega)).1
  have ha1 := (hT.2 3 (by omega)).2
  simp only [accLo, accHi, Nat.reduceMul, Nat.reduceAdd, Nat.reduceEqDiff, if_true, if_false] at ha0 ha1
  obtain ⟨x0, hx0⟩ : ∃ x0, s.get! 0 = x0 := ⟨_, rfl⟩
  have hs0 : s[0]'(by omega) = x0 := by rw [← hx0]; exact (Utf8W.get!_of_lt s 0 (by omega)).symm
  obtain ⟨x1, hx1⟩ : ∃ x1, s.get! 1 = x1 := ⟨_, rfl⟩
  have hs1 : s[1]'(by omega) = x1 := by rw [← hx1]; exact (Utf8W.get!_of_lt s 1 (by omega)).symm
  rw [hx1] at k0 k1
  obtain ⟨x2, hx2⟩ : ∃ x2, s.get! 2 = x2 := ⟨_, rfl⟩
  have hs2 : s[2]'(by omega) = x2 := by rw [← hx2]; exact (Utf8W.get!_of_lt s 2 (by omega)).symm
  rw [hx2] at k2 k3
  have q0 : ((x1.toNat : Int) < (144 : Int)) = False := by simp; omega
  have r0 : decide ((x1.toNat : Int) < (144 : Int)) = false := by simp; omega
  have q1 : ((191 : Int) < (x1.toNat : Int)) = False := by simp; omega
  have r1 : decide ((191 : Int) < (x1.toNat : Int)) = false := by simp; omega
  have q2 : ((x2.toNat : Int) < (128 : Int)) = False := by simp; omega
  have r2 : decide ((x2.toNat : Int) < (128 : Int)) = false := by simp; omega
  have q3 : ((191 : Int) < (x2.toNat : Int)) = False := by simp; omega
  have r3 : decide ((191 : Int) < (x2.toNat : Int)) = false := by simp; omega
  clear k0 k1 k2 k3 hx1 hx2
  rw [hx0] at hc0
  have l0 : (x0.toNat : Int) < 256 := by have := x0.toNat_lt; omega
  clear hT hX hx0
  go_enter Tryd.func26, Tryd.ntmps26
  go_wp2
  go_quiet (fail)
  go_wp2
  go_ret
  exact ⟨rfl, belowDrewN ((Below.refl _ _).alloc (Nat.le_refl _) _) _⟩
set_option maxHeartbeats 1600000 in
set_option maxRecDepth 100000 in
theorem full_slow4_1 (s : ByteArray) (w : World) (hT : Tabs w) (h0 : s.size = 1) (hX : firstT (s.get! 0).toNat = 4) : Calls Tryd.prog 26 #[.string s] w (FullPost w false) := by
  have hc0 := hT.1 (s.get! 0).toNat (by have := (s.get! 0).toNat_lt; omega)
  rw [hX] at hc0
  have ha0 := (hT.2 0 (by omega)).1
  have ha1 := (hT.2 0 (by omega)).2
  simp only [accLo, accHi, Nat.reduceMul, Nat.reduceAdd, Nat.reduceEqDiff, if_true, if_false] at ha0 ha1
  obtain ⟨x0, hx0⟩ : ∃ x0, s.get! 0 = x0 := ⟨_, rfl⟩
  have hs0 : s[0]'(by omega) = x0 := by rw [← hx0]; exact (Utf8W.get!_of_lt s 0 (by omega)).symm
  rw [hx0] at hc0
  have l0 : (x0.toNat : Int) < 256 := by have := x0.toNat_lt; omega
  clear hT hX hx0
  go_enter Tryd.func26, Tryd.ntmps26
  go_wp2
  go_quiet (fail)
  go_wp2
  go_ret
  exact ⟨rfl, belowDrewN ((Below.refl _ _).alloc (Nat.le_refl _) _) _⟩
set_option maxHeartbeats 1600000 in
set_option maxRecDepth 100000 in
theorem full_slow4_2a (s : ByteArray) (w : World) (hT : Tabs w) (h0 : s.size = 2) (hX : firstT (s.get! 0).toNat = 4) (k0 : (s.get! 1).toNat < 128) : Calls Tryd.prog 26 #[.string s] w (FullPost w true) := by
  have hc0 := hT.1 (s.get! 0).toNat (by have := (s.get! 0).toNat_lt; omega)
  rw [hX] at hc0
  have ha0 := (hT.2 0 (by omega)).1
  have ha1 := (hT.2 0 (by omega)).2
  simp only [accLo, accHi, Nat.reduceMul, Nat.reduceAdd, Nat.reduceEqDiff, if_true, if_false] at ha0 ha1
  obtain ⟨x0, hx0⟩ : ∃ x0, s.get! 0 = x0 := ⟨_, rfl⟩
  have hs0 : s[0]'(by omega) = x0 := by rw [← hx0]; exact (Utf8W.get!_of_lt s 0 (by omega)).symm
  obtain ⟨x1, hx1⟩ : ∃ x1, s.get! 1 = x1 := ⟨_, rfl⟩
  have hs1 : s[1]'(by omega) = x1 := by rw [← hx1]; exact (Utf8W.get!_of_lt s 1 (by omega)).symm
  rw [hx1] at k0
  have q0 : ((x1.toNat : Int) < (128 : Int)) = True := by simp; omega
  have r0 : decide ((x1.toNat : Int) < (128 : Int)) = true := by simp; omega
  clear k0 hx1
  rw [hx0] at hc0
  have l0 : (x0.toNat : Int) < 256 := by have := x0.toNat_lt; omega
  clear hT hX hx0
  go_enter Tryd.func26, Tryd.ntmps26
  go_wp2
  go_quiet (fail)
  go_wp2
  go_ret
  exact ⟨rfl, belowDrewN ((Below.refl _ _).alloc (Nat.le_refl _) _) _⟩
set_option maxHeartbeats 1600000 in
set_option maxRecDepth 100000 in
theorem full_slow4_2b (s : ByteArray) (w : World) (hT : Tabs w) (h0 : s.size = 2) (hX : firstT (s.get! 0).toNat = 4) (k0 : ¬ (s.get! 1).toNat < 128) (k1 : 191 < (s.get! 1).toNat) : Calls Tryd.prog 26 #[.string s] w (FullPost w true) := by
  have hc0 := hT.1 (s.get! 0).toNat (by have := (s.get! 0).toNat_lt; omega)
  rw [hX] at hc0
  have ha0 := (hT.2 0 (by omega)).1
  have ha1 := (hT.2 0 (by omega)).2
  simp only [accLo, accHi, Nat.reduceMul, Nat.reduceAdd, Nat.reduceEqDiff, if_true, if_false] at ha0 ha1
  obtain ⟨x0, hx0⟩ : ∃ x0, s.get! 0 = x0 := ⟨_, rfl⟩
  have hs0 : s[0]'(by omega) = x0 := by rw [← hx0]; exact (Utf8W.get!_of_lt s 0 (by omega)).symm
  obtain ⟨x1, hx1⟩ : ∃ x1, s.get! 1 = x1 := ⟨_, rfl⟩
  have hs1 : s[1]'(by omega) = x1 := by rw [← hx1]; exact (Utf8W.get!_of_lt s 1 (by omega)).symm
  rw [hx1] at k0 k1
  have q0 : ((x1.toNat : Int) < (128 : Int)) = False := by simp; omega
  have r0 : decide ((x1.toNat : Int) < (128 : Int)) = false := by simp; omega
  have q1 : ((191 : Int) < (x1.toNat : Int)) = True := by simp; omega
  have r1 : decide ((191 : Int) < (x1.toNat : Int)) = true := by simp; omega
  clear k0 k1 hx1
  rw [hx0] at hc0
  have l0 : (x0.toNat : Int) < 256 := by have := x0.toNat_lt; omega
  clear hT hX hx0
  go_enter Tryd.func26, Tryd.ntmps26
  go_wp2
  go_quiet (fail)
  go_wp2
  go_ret
  exact ⟨rfl, belowDrewN ((Below.refl _ _).alloc (Nat.le_refl _) _) _⟩
set_option maxHeartbeats 1600000 in
set_option maxRecDepth 100000 in
theorem full_slow4_2c (s : ByteArray) (w : World) (hT : Tabs w) (h0 : s.size = 2) (hX : firstT (s.get! 0).toNat = 4) (k0 : ¬ (s.get! 1).toNat < 128) (k1 : ¬ 191 < (s.get! 1).toNat) : Calls Tryd.prog 26 #[.string s] w (FullPost w false) := by
  have hc0 := hT.1 (s.get! 0).toNat (by have := (s.get! 0).toNat_lt; omega)
  rw [hX] at hc0
  have ha0 := (hT.2 0 (by omega)).1
  have ha1 := (hT.2 0 (by omega)).2
  simp only [accLo, accHi, Nat.reduceMul, Nat.reduceAdd, Nat.reduceEqDiff, if_true, if_false] at ha0 ha1
  obtain ⟨x0, hx0⟩ : ∃ x0, s.get! 0 = x0 := ⟨_, rfl⟩
  have hs0 : s[0]'(by omega) = x0 := by rw [← hx0]; exact (Utf8W.get!_of_lt s 0 (by omega)).symm
  obtain ⟨x1, hx1⟩ : ∃ x1, s.get! 1 = x1 := ⟨_, rfl⟩
  have hs1 : s[1]'(by omega) = x1 := by rw [← hx1]; exact (Utf8W.get!_of_lt s 1 (by omega)).symm
  rw [hx1] at k0 k1
  have q0 : ((x1.toNat : Int) < (128 : Int)) = False := by simp; omega
  have r0 : decide ((x1.toNat : Int) < (128 : Int)) = false := by simp; omega
  have q1 : ((191 : Int) < (x1.toNat : Int)) = False := by simp; omega
  have r1 : decide ((191 : Int) < (x1.toNat : Int)) = false := by simp; omega
  clear k0 k1 hx1
  rw [hx0] at hc0
  have l0 : (x0.toNat : Int) < 256 := by have := x0.toNat_lt; omega
  clear hT hX hx0
  go_enter Tryd.func26, Tryd.ntmps26
  go_wp2
  go_quiet (fail)
  go_wp2
  go_ret
  exact ⟨rfl, belowDrewN ((Below.refl _ _).alloc (Nat.le_refl _) _) _⟩
set_option maxHeartbeats 1600000 in
set_option maxRecDepth 100000 in
theorem full_slow4_3a (s : ByteArray) (w : World) (hT : Tabs w) (h0 : s.size = 3) (hX : firstT (s.get! 0).toNat = 4) (k0 : (s.get! 1).toNat < 128) : Calls Tryd.prog 26 #[.string s] w (FullPost w true) := by
  have hc0 := hT.1 (s.get! 0).toNat (by have := (s.get! 0).toNat_lt; omega)
  rw [hX] at hc0
  have ha0 := (hT.2 0 (by omega)).1
  have ha1 := (hT.2 0 (by omega)).2
  simp only [accLo, accHi, Nat.reduceMul, Nat.reduceAdd, Nat.reduceEqDiff, if_true, if_false] at ha0 ha1
  obtain ⟨x0, hx0⟩ : ∃ x0, s.get! 0 = x0 := ⟨_, rfl⟩
  have hs0 : s[0]'(by omega) = x0 := by rw [← hx0]; exact (Utf8W.get!_of_lt s 0 (by omega)).symm
  obtain ⟨x1, hx1⟩ : ∃ x1, s.get! 1 = x1 := ⟨_, rfl⟩
  have hs1 : s[1]'(by omega) = x1 := by rw [← hx1]; exact (Utf8W.get!_of_lt s 1 (by omega)).symm
  rw [hx1] at k0
  obtain ⟨x2, hx2⟩ : ∃ x2, s.get! 2 = x2 := ⟨_, rfl⟩
  have hs2 : s[2]'(by omega) = x2 := by rw [← hx2]; exact (Utf8W.get!_of_lt s 2 (by omega)).symm
  have q0 : ((x1.toNat : Int) < (128 : Int)) = True := by simp; omega
  have r0 : decide ((x1.toNat : Int) < (128 : Int)) = true := by simp; omega
  clear k0 hx1 hx2
  rw [hx0] at hc0
  have l0 : (x0.toNat : Int) < 256 := by have := x0.toNat_lt; omega
  clear hT hX hx0
  go_enter Tryd.func26, Tryd.ntmps26
  go_wp2
  go_quiet (fail)
  go_wp2
  go_ret
  exact ⟨rfl, belowDrewN ((Below.refl _ _).alloc (Nat.le_refl _) _) _⟩
set_option maxHeartbeats 1600000 in
set_option maxRecDepth 100000 in
theorem full_slow4_3b (s : ByteArray) (w : World) (hT : Tabs w) (h0 : s.size = 3) (hX : firstT (s.get! 0).toNat = 4) (k0 : ¬ (s.get! 1).toNat < 128) (k1 : 191 < (s.get! 1).toNat) : Calls Tryd.prog 26 #[.string s] w (FullPost w true) := by
  have hc0 := hT.1 (s.get! 0).toNat (by have := (s.get! 0).toNat_lt; omega)
  rw [hX] at hc0
  have ha0 := (hT.2 0 (by omega)).1
  have ha1 := (hT.2 0 (by omega)).2
  simp only [accLo, accHi, Nat.reduceMul, Nat.reduceAdd, Nat.reduceEqDiff, if_true, if_false] at ha0 ha1
  obtain ⟨x0, hx0⟩ : ∃ x0, s.get! 0 = x0 := ⟨_, rfl⟩
  have hs0 : s[0]'(by omega) = x0 := by rw [← hx0]; exact (Utf8W.get!_of_lt s 0 (by omega)).symm
  obtain ⟨x1, hx1⟩ : ∃ x1, s.get! 1 = x1 := ⟨_, rfl⟩
  have hs1 : s[1]'(by omega) = x1 := by rw [← hx1]; exact (Utf8W.get!_of_lt s 1 (by omega)).symm
  rw [hx1] at k0 k1
  obtain ⟨x2, hx2⟩ : ∃ x2, s.get! 2 = x2 := ⟨_, rfl⟩
  have hs2 : s[2]'(by omega) = x2 := by rw [← hx2]; exact (Utf8W.get!_of_lt s 2 (by omega)).symm
  have q0 : ((x1.toNat : Int) < (128 : Int)) = False := by simp; omega
  have r0 : decide ((x1.toNat : Int) < (128 : Int)) = false := by simp; omega
  have q1 : ((191 : Int) < (x1.toNat : Int)) = True := by simp; omega
  have r1 : decide ((191 : Int) < (x1.toNat : Int)) = true := by simp; omega
  clear k0 k1 hx1 hx2
  rw [hx0] at hc0
  have l0 : (x0.toNat : Int) < 256 := by have := x0.toNat_lt; omega
  clear hT hX hx0
  go_enter Tryd.func26, Tryd.ntmps26
  go_wp2
  go_quiet (fail)
  go_wp2
  go_ret
  exact ⟨rfl, belowDrewN ((Below.refl _ _).alloc (Nat.le_refl _) _) _⟩
set_option maxHeartbeats 1600000 in
set_option maxRecDepth 100000 in
theorem full_slow4_3c (s : ByteArray) (w : World) (hT : Tabs w) (h0 : s.size = 3) (hX : firstT (s.get! 0).toNat = 4) (k0 : ¬ (s.get! 1).toNat < 128) (k1 : ¬ 191 < (s.get! 1).toNat) (k2 : (s.get! 2).toNat < 128) : Calls Tryd.prog 26 #[.string s] w (FullPost w true) := by
  have hc0 := hT.1 (s.get! 0).toNat (by have := (s.get! 0).toNat_lt; omega)
  rw [hX] at hc0
  have ha0 := (hT.2 0 (by omega)).1
  have ha1 := (hT.2 0 (by omega)).2
  simp only [accLo, accHi, Nat.reduceMul, Nat.reduceAdd, Nat.reduceEqDiff, if_true, if_false] at ha0 ha1
  obtain ⟨x0, hx0⟩ : ∃ x0, s.get! 0 = x0 := ⟨_, rfl⟩
  have hs0 : s[0]'(by omega) = x0 := by rw [← hx0]; exact (Utf8W.get!_of_lt s 0 (by omega)).symm
  obtain ⟨x1, hx1⟩ : ∃ x1, s.get! 1 = x1 := ⟨_, rfl⟩
  have hs1 : s[1]'(by omega) = x1 := by rw [← hx1]; exact (Utf8W.get!_of_lt s 1 (by omega)).symm
  rw [hx1] at k0 k1
  obtain ⟨x2, hx2⟩ : ∃ x2, s.get! 2 = x2 := ⟨_, rfl⟩
  have hs2 : s[2]'(by omega) = x2 := by rw [← hx2]; exact (Utf8W.get!_of_lt s 2 (by omega)).symm
  rw [hx2] at k2
  have q0 : ((x1.toNat : Int) < (128 : Int)) = False := by simp; omega
  have r0 : decide ((x1.toNat : Int) < (128 : Int)) = false := by simp; omega
  have q1 : ((191 : Int) < (x1.toNat : Int)) = False := by simp; omega
  have r1 : decide ((191 : Int) < (x1.toNat : Int)) = false := by simp; omega
  have q2 : ((x2.toNat : Int) < (128 : Int)) = True := by simp; omega
  have r2 : decide ((x2.toNat : Int) < (128 : Int)) = true := by simp; omega
  clear k0 k1 k2 hx1 hx2
  rw [hx0] at hc0
  have l0 : (x0.toNat : Int) < 256 := by have := x0.toNat_lt; omega
  clear hT hX hx0
  go_enter Tryd.func26, Tryd.ntmps26
  go_wp2
  go_quiet (fail)
  go_wp2
  go_ret
  exact ⟨rfl, belowDrewN ((Below.refl _ _).alloc (Nat.le_refl _) _) _⟩
set_option maxHeartbeats 1600000 in
set_option maxRecDepth 100000 in
theorem full_slow4_3d (s : ByteArray) (w : World) (hT : Tabs w) (h0 : s.size = 3) (hX : firstT (s.get! 0).toNat = 4) (k0 : ¬ (s.get! 1).toNat < 128) (k1 : ¬ 191 < (s.get! 1).toNat) (k2 : ¬ (s.get! 2).toNat < 128) (k3 : 191 < (s.get! 2).toNat) : Calls Tryd.prog 26 #[.string s] w (FullPost w true) := by
  have hc0 := hT.1 (s.get! 0).toNat (by have := (s.get! 0).toNat_lt; omega)
  rw [hX] at hc0
  have ha0 := (hT.2 0 (by omega)).1
  have ha1 := (hT.2 0 (by omega)).2
  simp only [accLo, accHi, Nat.reduceMul, Nat.reduceAdd, Nat.reduceEqDiff, if_true, if_false] at ha0 ha1
  obtain ⟨x0, hx0⟩ : ∃ x0, s.get! 0 = x0 := ⟨_, rfl⟩
  have hs0 : s[0]'(by omega) = x0 := by rw [← hx0]; exact (Utf8W.get!_of_lt s 0 (by omega)).symm
  obtain ⟨x1, hx1⟩ : ∃ x1, s.get! 1 = x1 := ⟨_, rfl⟩
  have hs1 : s[1]'(by omega) = x1 := by rw [← hx1]; exact (Utf8W.get!_of_lt s 1 (by omega)).symm
  rw [hx1] at k0 k1
  obtain ⟨x2, hx2⟩ : ∃ x2, s.get! 2 = x2 := ⟨_, rfl⟩
  have hs2 : s[2]'(by omega) = x2 := by rw [← hx2]; exact (Utf8W.get!_of_lt s 2 (by omega)).symm
  rw [hx2] at k2 k3
  have q0 : ((x1.toNat : Int) < (128 : Int)) = False := by simp; omega
  have r0 : decide ((x1.toNat : Int) < (128 : Int)) = false := by simp; omega
  have q1 : ((191 : Int) < (x1.toNat : Int)) = False := by simp; omega
  have r1 : decide ((191 : Int) < (x1.toNat : Int)) = false := by simp; omega
  have q2 : ((x2.toNat : Int) < (128 : Int)) = False := by simp; omega
  have r2 : decide ((x2.toNat : Int) < (128 : Int)) = false := by simp; omega
  have q3 : ((191 : Int) < (x2.toNat : Int)) = True := by simp; omega
  have r3 : decide ((191 : Int) < (x2.toNat : Int)) = true := by simp; omega
  clear k0 k1 k2 k3 hx1 hx2
  rw [hx0] at hc0
  have l0 : (x0.toNat : Int) < 256 := by have := x0.toNat_lt; omega
  clear hT hX hx0
  go_enter Tryd.func26, Tryd.ntmps26
  go_wp2
  go_quiet (fail)
  go_wp2
  go_ret
  exact ⟨rfl, belowDrewN ((Below.refl _ _).alloc (Nat.le_refl _) _) _⟩
set_option maxHeartbeats 1600000 in
set_option maxRecDepth 100000 in
theorem full_slow4_3e (s : ByteArray) (w : World) (hT : Tabs w) (h0 : s.size = 3) (hX : firstT (s.get! 0).toNat = 4) (k0 : ¬ (s.get! 1).toNat < 128) (k1 : ¬ 191 < (s.get! 1).toNat) (k2 : ¬ (s.get! 2).toNat < 128) (k3 : ¬ 191 < (s.get! 2).toNat) : Calls Tryd.prog 26 #[.string s] w (FullPost w false) := by
  have hc0 := hT.1 (s.get! 0).toNat (by have := (s.get! 0).toNat_lt; omega)
  rw [hX] at hc0
  have ha0 := (hT.2 0 (by omega)).1
  have ha1 := (hT.2 0 (by omega)).2
  simp only [accLo, accHi, Nat.reduceMul, Nat.reduceAdd, Nat.reduceEqDiff, if_true, if_false] at ha0 ha1
  obtain ⟨x0, hx0⟩ : ∃ x0, s.get! 0 = x0 := ⟨_, rfl⟩
  have hs0 : s[0]'(by omega) = x0 := by rw [← hx0]; exact (Utf8W.get!_of_lt s 0 (by omega)).symm
  obtain ⟨x1, hx1⟩ : ∃ x1, s.get! 1 = x1 := ⟨_, rfl⟩
  have hs1 : s[1]'(by omega) = x1 := by rw [← hx1]; exact (Utf8W.get!_of_lt s 1 (by omega)).symm
  rw [hx1] at k0 k1
  obtain ⟨x2, hx2⟩ : ∃ x2, s.get! 2 = x2 := ⟨_, rfl⟩
  have hs2 : s[2]'(by omega) = x2 := by rw [← hx2]; exact (Utf8W.get!_of_lt s 2 (by omega)).symm
  rw [hx2] at k2 k3
  have q0 : ((x1.toNat : Int) < (128 : Int)) = False := by simp; omega
  have r0 : decide ((x1.toNat : Int) < (128 : Int)) = false := by simp; omega
  have q1 : ((191 : Int) < (x1.toNat : Int)) = False := by simp; omega
  have r1 : decide ((191 : Int) < (x1.toNat : Int)) = false := by simp; omega
  have q2 : ((x2.toNat : Int) < (128 : Int)) = False := by simp; omega
  have r2 : decide ((x2.toNat : Int) < (128 : Int)) = false := by simp; omega
  have q3 : ((191 : Int) < (x2.toNat : Int)) = False := by simp; omega
  have r3 : decide ((191 : Int) < (x2.toNat : Int)) = false := by simp; omega
  clear k0 k1 k2 k3 hx1 hx2
  rw [hx0] at hc0
  have l0 : (x0.toNat : Int) < 256 := by have := x0.toNat_lt; omega
  clear hT hX hx0
  go_enter Tryd.func26, Tryd.ntmps26
  go_wp2
  go_quiet (fail)
  go_wp2
  go_ret
  exact ⟨rfl, belowDrewN ((Below.refl _ _).alloc (Nat.le_refl _) _) _⟩
set_option maxHeartbeats 1600000 in
set_option maxRecDepth 100000 in
theorem full_slow68_1 (s : ByteArray) (w : World) (hT : Tabs w) (h0 : s.size = 1) (hX : firstT (s.get! 0).toNat = 68) : Calls Tryd.prog 26 #[.string s] w (FullPost w false) := by
  have hc0 := hT.1 (s.get! 0).toNat (by have := (s.get! 0).toNat_lt; omega)
  rw [hX] at hc0
  have ha0 := (hT.2 4 (by omega)).1
  have ha1 := (hT.2 4 (by omega)).2
  simp only [accLo, accHi, Nat.reduceMul, Nat.reduceAdd, Nat.reduceEqDiff, if_true, if_false] at ha0 ha1
  obtain ⟨x0, hx0⟩ : ∃ x0, s.get! 0 = x0 := ⟨_, rfl⟩
  have hs0 : s[0]'(by omega) = x0 := by rw [← hx0]; exact (Utf8W.get!_of_lt s 0 (by omega)).symm
  rw [hx0] at hc0
  have l0 : (x0.toNat : Int) < 256 := by have := x0.toNat_lt; omega
  clear hT hX hx0
  go_enter Tryd.func26, Tryd.ntmps26
  go_wp2
  go_quiet (fail)
  go_wp2
  go_ret
  exact ⟨rfl, belowDrewN ((Below.refl _ _).alloc (Nat.le_refl _) _) _⟩
set_option maxHeartbeats 1600000 in
set_option maxRecDepth 100000 in
theorem full_slow68_2a (s : ByteArray) (w : World) (hT : Tabs w) (h0 : s.size = 2) (hX : firstT (s.get! 0).toNat = 68) (k0 : (s.get! 1).toNat < 128) : Calls Tryd.prog 26 #[.string s] w (FullPost w true) := by
  have hc0 := hT.1 (s.get! 0).toNat (by have := (s.get! 0).toNat_lt; omega)
  rw [hX] at hc0
  have ha0 := (hT.2 4 (by omega)).1
  have ha1 := (hT.2 4 (by omega)).2
  simp only [accLo, accHi, Nat.reduceMul, Nat.reduceAdd, Nat.reduceEqDiff, if_true, if_false] at ha0 ha1
  obtain ⟨x0, hx0⟩ : ∃ x0, s.get! 0 = x0 := ⟨_, rfl⟩
  have hs0 : s[0]'(by omega) = x0 := by rw [← hx0]; exact (Utf8W.get!_of_lt s 0 (by omega)).symm
  obtain ⟨x1, hx1⟩ : ∃ x1, s.get! 1 = x1 := ⟨_, rfl⟩
  have hs1 : s[1]'(by omega) = x1 := by rw [← hx1]; exact (Utf8W.get!_of_lt s 1 (by omega)).symm
  rw [hx1] at k0
  have q0 : ((x1.toNat : Int) < (128 : Int)) = True := by simp; omega
  have r0 : decide ((x1.toNat : Int) < (128 : Int)) = true := by simp; omega
  clear k0 hx1
  rw [hx0] at hc0
  have l0 : (x0.toNat : Int) < 256 := by have := x0.toNat_lt; omega
  clear hT hX hx0
  go_enter Tryd.func26, Tryd.ntmps26
  go_wp2
  go_quiet (fail)
  go_wp2
  go_ret
  exact ⟨rfl, belowDrewN ((Below.refl _ _).alloc (Nat.le_refl _) _) _⟩
set_option maxHeartbeats 1600000 in
set_option maxRecDepth 100000 in
theorem full_slow68_2b (s : ByteArray) (w : World) (hT : Tabs w) (h0 : s.size = 2) (hX : firstT (s.get! 0).toNat = 68) (k0 : ¬ (s.get! 1).toNat < 128) (k1 : 143 < (s.get! 1).toNat) : Calls Tryd.prog 26 #[.string s] w (FullPost w true) := by
  have hc0 := hT.1 (s.get! 0).toNat (by have := (s.get! 0).toNat_lt; omega)
  rw [hX] at hc0
  have ha0 := (hT.2 4 (by omega)).1
  have ha1 := (hT.2 4 (by omega)).2
  simp only [accLo, accHi, Nat.reduceMul, Nat.reduceAdd, Nat.reduceEqDiff, if_true, if_false] at ha0 ha1
  obtain ⟨x0, hx0⟩ : ∃ x0, s.get! 0 = x0 := ⟨_, rfl⟩
  have hs0 : s[0]'(by omega) = x0 := by rw [← hx0]; exact (Utf8W.get!_of_lt s 0 (by omega)).symm
  obtain ⟨x1, hx1⟩ : ∃ x1, s.get! 1 = x1 := ⟨_, rfl⟩
  have hs1 : s[1]'(by omega) = x1 := by rw [← hx1]; exact (Utf8W.get!_of_lt s 1 (by omega)).symm
  rw [hx1] at k0 k1
  have q0 : ((x1.toNat : Int) < (128 : Int)) = False := by simp; omega
  have r0 : decide ((x1.toNat : Int) < (128 : Int)) = false := by simp; omega
  have q1 : ((143 : Int) < (x1.toNat : Int)) = True := by simp; omega
  have r1 : decide ((143 : Int) < (x1.toNat : Int)) = true := by simp; omega
  clear k0 k1 hx1
  rw [hx0] at hc0
  have l0 : (x0.toNat : Int) < 256 := by have := x0.toNat_lt; omega
  clear hT hX hx0
  go_enter Tryd.func26, Tryd.ntmps26
  go_wp2
  go_quiet (fail)
  go_wp2
  go_ret
  exact ⟨rfl, belowDrewN ((Below.refl _ _).alloc (Nat.le_refl _) _) _⟩
set_option maxHeartbeats 1600000 in
set_option maxRecDepth 100000 in
theorem full_slow68_2c (s : ByteArray) (w : World) (hT : Tabs w) (h0 : s.size = 2) (hX : firstT (s.get! 0).toNat = 68) (k0 : ¬ (s.get! 1).toNat < 128) (k1 : ¬ 143 < (s.get! 1).toNat) : Calls Tryd.prog 26 #[.string s] w (FullPost w false) := by
  have hc0 := hT.1 (s.get! 0).toNat (by have := (s.get! 0).toNat_lt; omega)
  rw [hX] at hc0
  have ha0 := (hT.2 4 (by omega)).1
  have ha1 := (hT.2 4 (by omega)).2
  simp only [accLo, accHi, Nat.reduceMul, Nat.reduceAdd, Nat.reduceEqDiff, if_true, if_false] at ha0 ha1
  obtain ⟨x0, hx0⟩ : ∃ x0, s.get! 0 = x0 := ⟨_, rfl⟩
  have hs0 : s[0]'(by omega) = x0 := by rw [← hx0]; exact (Utf8W.get!_of_lt s 0 (by omega)).symm
  obtain ⟨x1, hx1⟩ : ∃ x1, s.get! 1 = x1 := ⟨_, rfl⟩
  have hs1 : s[1]'(by omega) = x1 := by rw [← hx1]; exact (Utf8W.get!_of_lt s 1 (by omega)).symm
  rw [hx1] at k0 k1
  have q0 : ((x1.toNat : Int) < (128 : Int)) = False := by simp; omega
  have r0 : decide ((x1.toNat : Int) < (128 : Int)) = false := by simp; omega
  have q1 : ((143 : Int) < (x1.toNat : Int)) = False := by simp; omega
  have r1 : decide ((143 : Int) < (x1.toNat : Int)) = false := by simp; omega
  clear k0 k1 hx1
  rw [hx0] at hc0
  have l0 : (x0.toNat : Int) < 256 := by have := x0.toNat_lt; omega
  clear hT hX hx0
  go_enter Tryd.func26, Tryd.ntmps26
  go_wp2
  go_quiet (fail)
  go_wp2
  go_ret
  exact ⟨rfl, belowDrewN ((Below.refl _ _).alloc (Nat.le_refl _) _) _⟩
set_option maxHeartbeats 1600000 in
set_option maxRecDepth 100000 in
theorem full_slow68_3a (s : ByteArray) (w : World) (hT : Tabs w) (h0 : s.size = 3) (hX : firstT (s.get! 0).toNat = 68) (k0 : (s.get! 1).toNat < 128) : Calls Tryd.prog 26 #[.string s] w (FullPost w true) := by
  have hc0 := hT.1 (s.get! 0).toNat (by have := (s.get! 0).toNat_lt; omega)
  rw [hX] at hc0
  have ha0 := (hT.2 4 (by omega)).1
  have ha1 := (hT.2 4 (by omega)).2
  simp only [accLo, accHi, Nat.reduceMul, Nat.reduceAdd, Nat.reduceEqDiff, if_true, if_false] at ha0 ha1
  obtain ⟨x0, hx0⟩ : ∃ x0, s.get! 0 = x0 := ⟨_, rfl⟩
  have hs0 : s[0]'(by omega) = x0 := by rw [← hx0]; exact (Utf8W.get!_of_lt s 0 (by omega)).symm
  obtain ⟨x1, hx1⟩ : ∃ x1, s.get! 1 = x1 := ⟨_, rfl⟩
  have hs1 : s[1]'(by omega) = x1 := by rw [← hx1]; exact (Utf8W.get!_of_lt s 1 (by omega)).symm
  rw [hx1] at k0
  obtain ⟨x2, hx2⟩ : ∃ x2, s.get! 2 = x2 := ⟨_, rfl⟩
  have hs2 : s[2]'(by omega) = x2 := by rw [← hx2]; exact (Utf8W.get!_of_lt s 2 (by omega)).symm
  have q0 : ((x1.toNat : Int) < (128 : Int)) = True := by simp; omega
  have r0 : decide ((x1.toNat : Int) < (128 : Int)) = true := by simp; omega
  clear k0 hx1 hx2
  rw [hx0] at hc0
  have l0 : (x0.toNat : Int) < 256 := by have := x0.toNat_lt; omega
  clear hT hX hx0
  go_enter Tryd.func26, Tryd.ntmps26
  go_wp2
  go_quiet (fail)
  go_wp2
  go_ret
  exact ⟨rfl, belowDrewN ((Below.refl _ _).alloc (Nat.le_refl _) _) _⟩
set_option maxHeartbeats 1600000 in
set_option maxRecDepth 100000 in
theorem full_slow68_3b (s : ByteArray) (w : World) (hT : Tabs w) (h0 : s.size = 3) (hX : firstT (s.get! 0).toNat = 68) (k0 : ¬ (s.get! 1).toNat < 128) (k1 : 143 < (s.get! 1).toNat) : Calls Tryd.prog 26 #[.string s] w (FullPost w true) := by
  have hc0 := hT.1 (s.get! 0).toNat (by have := (s.get! 0).toNat_lt; omega)
  rw [hX] at hc0
  have ha0 := (hT.2 4 (by omega)).1
  have ha1 := (hT.2 4 (by omega)).2
  simp only [accLo, accHi, Nat.reduceMul, Nat.reduceAdd, Nat.reduceEqDiff, if_true, if_false] at ha0 ha1
  obtain ⟨x0, hx0⟩ : ∃ x0, s.get! 0 = x0 := ⟨_, rfl⟩
  have hs0 : s[0]'(by omega) = x0 := by rw [← hx0]; exact (Utf8W.get!_of_lt s 0 (by omega)).symm
  obtain ⟨x1, hx1⟩ : ∃ x1, s.get! 1 = x1 := ⟨_, rfl⟩
  have hs1 : s[1]'(by omega) = x1 := by rw [← hx1]; exact (Utf8W.get!_of_lt s 1 (by omega)).symm
  rw [hx1] at k0 k1
  obtain ⟨x2, hx2⟩ : ∃ x2, s.get! 2 = x2 := ⟨_, rfl⟩
  have hs2 : s[2]'(by omega) = x2 := by rw [← hx2]; exact (Utf8W.get!_of_lt s 2 (by omega)).symm
  have q0 : ((x1.toNat : Int) < (128 : Int)) = False := by simp; omega
  have r0 : decide ((x1.toNat : Int) < (128 : Int)) = false := by simp; omega
  have q1 : ((143 : Int) < (x1.toNat : Int)) = True := by simp; omega
  have r1 : decide ((143 : Int) < (x1.toNat : Int)) = true := by simp; omega
  clear k0 k1 hx1 hx2
  rw [hx0] at hc0
  have l0 : (x0.toNat : Int) < 256 := by have := x0.toNat_lt; omega
  clear hT hX hx0
  go_enter Tryd.func26, Tryd.ntmps26
  go_wp2
  go_quiet (fail)
  go_wp2
  go_ret
  exact ⟨rfl, belowDrewN ((Below.refl _ _).alloc (Nat.le_refl _) _) _⟩
set_option maxHeartbeats 1600000 in
set_option maxRecDepth 100000 in
theorem full_slow68_3c (s : ByteArray) (w : World) (hT : Tabs w) (h0 : s.size = 3) (hX : firstT (s.get! 0).toNat = 68) (k0 : ¬ (s.get! 1).toNat < 128) (k1 : ¬ 143 < (s.get! 1).toNat) (k2 : (s.get! 2).toNat < 128) : Calls Tryd.prog 26 #[.string s] w (FullPost w true) := by
  have hc0 := hT.1 (s.get! 0).toNat (by have := (s.get! 0).toNat_lt; omega)
  rw [hX] at hc0
  have ha0 := (hT.2 4 (by omega)).1
  have ha1 := (hT.2 4 (by omega)).2
  simp only [accLo, accHi, Nat.reduceMul, Nat.reduceAdd, Nat.reduceEqDiff, if_true, if_false] at ha0 ha1
  obtain ⟨x0, hx0⟩ : ∃ x0, s.get! 0 = x0 := ⟨_, rfl⟩
  have hs0 : s[0]'(by omega) = x0 := by rw [← hx0]; exact (Utf8W.get!_of_lt s 0 (by omega)).symm
  obtain ⟨x1, hx1⟩ : ∃ x1, s.get! 1 = x1 := ⟨_, rfl⟩
  have hs1 : s[1]'(by omega) = x1 := by rw [← hx1]; exact (Utf8W.get!_of_lt s 1 (by omega)).symm
  rw [hx1] at k0 k1
  obtain ⟨x2, hx2⟩ : ∃ x2, s.get! 2 = x2 := ⟨_, rfl⟩
  have hs2 : s[2]'(by omega) = x2 := by rw [← hx2]; exact (Utf8W.get!_of_lt s 2 (by omega)).symm
  rw [hx2] at k2
  have q0 : ((x1.toNat : Int) < (128 : Int)) = False := by simp; omega
  have r0 : decide ((x1.toNat : Int) < (128 : Int)) = false := by simp; omega
  have q1 : ((143 : Int) < (x1.toNat : Int)) = False := by simp; omega
  have r1 : decide ((143 : Int) < (x1.toNat : Int)) = false := by simp; omega
  have q2 : ((x2.toNat : Int) < (128 : Int)) = True := by simp; omega
  have r2 : decide ((x2.toNat : Int) < (128 : Int)) = true := by simp; omega
  clear k0 k1 k2 hx1 hx2
  rw [hx0] at hc0
  have l0 : (x0.toNat : Int) < 256 := by have := x0.toNat_lt; omega
  clear hT hX hx0
  go_enter Tryd.func26, Tryd.ntmps26
  go_wp2
  go_quiet (fail)
  go_wp2
  go_ret
  exact ⟨rfl, belowDrewN ((Below.refl _ _).alloc (Nat.le_refl _) _) _⟩
set_option maxHeartbeats 1600000 in
set_option maxRecDepth 100000 in
theorem full_slow68_3d (s : ByteArray) (w : World) (hT : Tabs w) (h0 : s.size = 3) (hX : firstT (s.get! 0).toNat = 68) (k0 : ¬ (s.get! 1).toNat < 128) (k1 : ¬ 143 < (s.get! 1).toNat) (k2 : ¬ (s.get! 2).toNat < 128) (k3 : 191 < (s.get! 2).toNat) : Calls Tryd.prog 26 #[.string s] w (FullPost w true) := by
  have hc0 := hT.1 (s.get! 0).toNat (by have := (s.get! 0).toNat_lt; omega)
  rw [hX] at hc0
  have ha0 := (hT.2 4 (by omega)).1
  have ha1 := (hT.2 4 (by omega)).2
  simp only [accLo, accHi, Nat.reduceMul, Nat.reduceAdd, Nat.reduceEqDiff, if_true, if_false] at ha0 ha1
  obtain ⟨x0, hx0⟩ : ∃ x0, s.get! 0 = x0 := ⟨_, rfl⟩
  have hs0 : s[0]'(by omega) = x0 := by rw [← hx0]; exact (Utf8W.get!_of_lt s 0 (by omega)).symm
  obtain ⟨x1, hx1⟩ : ∃ x1, s.get! 1 = x1 := ⟨_, rfl⟩
  have hs1 : s[1]'(by omega) = x1 := by rw [← hx1]; exact (Utf8W.get!_of_lt s 1 (by omega)).symm
  rw [hx1] at k0 k1
  obtain ⟨x2, hx2⟩ : ∃ x2, s.get! 2 = x2 := ⟨_, rfl⟩
  have hs2 : s[2]'(by omega) = x2 := by rw [← hx2]; exact (Utf8W.get!_of_lt s 2 (by omega)).symm
  rw [hx2] at k2 k3
  have q0 : ((x1.toNat : Int) < (128 : Int)) = False := by simp; omega
  have r0 : decide ((x1.toNat : Int) < (128 : Int)) = false := by simp; omega
  have q1 : ((143 : Int) < (x1.toNat : Int)) = False := by simp; omega
  have r1 : decide ((143 : Int) < (x1.toNat : Int)) = false := by simp; omega
  have q2 : ((x2.toNat : Int) < (128 : Int)) = False := by simp; omega
  have r2 : decide ((x2.toNat : Int) < (128 : Int)) = false := by simp; omega
  have q3 : ((191 : Int) < (x2.toNat : Int)) = True := by simp; omega
  have r3 : decide ((191 : Int) < (x2.toNat : Int)) = true := by simp; omega
  clear k0 k1 k2 k3 hx1 hx2
  rw [hx0] at hc0
  have l0 : (x0.toNat : Int) < 256 := by have := x0.toNat_lt; omega
  clear hT hX hx0
  go_enter Tryd.func26, Tryd.ntmps26
  go_wp2
  go_quiet (fail)
  go_wp2
  go_ret
  exact ⟨rfl, belowDrewN ((Below.refl _ _).alloc (Nat.le_refl _) _) _⟩
set_option maxHeartbeats 1600000 in
set_option maxRecDepth 100000 in
theorem full_slow68_3e (s : ByteArray) (w : World) (hT : Tabs w) (h0 : s.size = 3) (hX : firstT (s.get! 0).toNat = 68) (k0 : ¬ (s.get! 1).toNat < 128) (k1 : ¬ 143 < (s.get! 1).toNat) (k2 : ¬ (s.get! 2).toNat < 128) (k3 : ¬ 191 < (s.get! 2).toNat) : Calls Tryd.prog 26 #[.string s] w (FullPost w false) := by
  have hc0 := hT.1 (s.get! 0).toNat (by have := (s.get! 0).toNat_lt; omega)
  rw [hX] at hc0
  have ha0 := (hT.2 4 (by omega)).1
  have ha1 := (hT.2 4 (by omega)).2
  simp only [accLo, accHi, Nat.reduceMul, Nat.reduceAdd, Nat.reduceEqDiff, if_true, if_false] at ha0 ha1
  obtain ⟨x0, hx0⟩ : ∃ x0, s.get! 0 = x0 := ⟨_, rfl⟩
  have hs0 : s[0]'(by omega) = x0 := by rw [← hx0]; exact (Utf8W.get!_of_lt s 0 (by omega)).symm
  obtain ⟨x1, hx1⟩ : ∃ x1, s.get! 1 = x1 := ⟨_, rfl⟩
  have hs1 : s[1]'(by omega) = x1 := by rw [← hx1]; exact (Utf8W.get!_of_lt s 1 (by omega)).symm
  rw [hx1] at k0 k1
  obtain ⟨x2, hx2⟩ : ∃ x2, s.get! 2 = x2 := ⟨_, rfl⟩
  have hs2 : s[2]'(by omega) = x2 := by rw [← hx2]; exact (Utf8W.get!_of_lt s 2 (by omega)).symm
  rw [hx2] at k2 k3
  have q0 : ((x1.toNat : Int) < (128 : Int)) = False := by simp; omega
  have r0 : decide ((x1.toNat : Int) < (128 : Int)) = false := by simp; omega
  have q1 : ((143 : Int) < (x1.toNat : Int)) = False := by simp; omega
  have r1 : decide ((143 : Int) < (x1.toNat : Int)) = false := by simp; omega
  have q2 : ((x2.toNat : Int) < (128 : Int)) = False := by simp; omega
  have r2 : decide ((x2.toNat : Int) < (128 : Int)) = false := by simp; omega
  have q3 : ((191 : Int) < (x2.toNat : Int)) = False := by simp; omega
  have r3 : decide ((191 : Int) < (x2.toNat : Int)) = false := by simp; omega
  clear k0 k1 k2 k3 hx1 hx2
  rw [hx0] at hc0
  have l0 : (x0.toNat : Int) < 256 := by have := x0.toNat_lt; omega
  clear hT hX hx0
  go_enter Tryd.func26, Tryd.ntmps26
  go_wp2
  go_quiet (fail)
  go_wp2
  go_ret
  exact ⟨rfl, belowDrewN ((Below.refl _ _).alloc (Nat.le_refl _) _) _⟩
set_option maxHeartbeats 800000 in
theorem full_c (s : ByteArray) (w : World) (hT : Tabs w) (h0 : 0 < s.size) : Calls Tryd.prog 26 #[.string s] w (FullPost w (fullB (strL s))) := by
  rw [full_strL]
  rcases Lib.firstT_cases (s.get! 0).toNat with hX | hX | hX | hX | hX | hX | hX | hX | hX
  · have hk : firstT (s.get! 0).toNat % 8 = 0 := by rw [hX]
    rw [full_yes _ _ _ _ (by omega) (.inl (by omega))]
    exact full_fast240 s w hT h0 hX (by omega)
  · have hk : firstT (s.get! 0).toNat % 8 = 1 := by rw [hX]
    rw [full_yes _ _ _ _ (by omega) (.inl (by omega))]
    exact full_fast241 s w hT h0 hX (by omega)
  · have hk : firstT (s.get! 0).toNat % 8 = 2 := by rw [hX]
    have hlo : accLo (firstT (s.get! 0).toNat / 16) = 128 := by rw [hX]; rfl
    have hhi : accHi (firstT (s.get! 0).toNat / 16) = 191 := by rw [hX]; rfl
    by_cases hn : 2 ≤ s.size
    · rw [full_yes _ _ _ _ (by omega) (.inl (by omega))]
      exact full_fast2 s w hT h0 hX hn
    · have hs : s.size = 1 := by omega
      rw [full_not _ _ _ _ (by rw [hk, hlo, hhi]; omega)]
      exact full_slow2_1 s w hT hs hX
  · have hk : firstT (s.get! 0).toNat % 8 = 3 := by rw [hX]
    have hlo : accLo (firstT (s.get! 0).toNat / 16) = 160 := by rw [hX]; rfl
    have hhi : accHi (firstT (s.get! 0).toNat / 16) = 191 := by rw [hX]; rfl
    by_cases hn : 3 ≤ s.size
    · rw [full_yes _ _ _ _ (by omega) (.inl (by omega))]
      exact full_fast19 s w hT h0 hX hn
    · rcases (show s.size = 1 ∨ s.size = 2 by omega) with hs | hs
      · rw [full_not _ _ _ _ (by rw [hk, hlo, hhi]; omega)]
        exact full_slow19_1 s w hT hs hX
      · by_cases k0 : (s.get! 1).toNat < 160
        · rw [full_yes _ _ _ _ (by omega) (by rw [hk, hlo, hhi]; omega)]
          exact full_slow19_2a s w hT hs hX k0
        · by_cases k1 : 191 < (s.get! 1).toNat
          · rw [full_yes _ _ _ _ (by omega) (by rw [hk, hlo, hhi]; omega)]
            exact full_slow19_2b s w hT hs hX k0 k1
          · rw [full_not _ _ _ _ (by rw [hk, hlo, hhi]; omega)]
            exact full_slow19_2c s w hT hs hX k0 k1
  · have hk : firstT (s.get! 0).toNat % 8 = 3 := by rw [hX]
    have hlo : accLo (firstT (s.get! 0).toNat / 16) = 128 := by rw [hX]; rfl
    have hhi : accHi (firstT (s.get! 0).toNat / 16) = 191 := by rw [hX]; rfl
    by_cases hn : 3 ≤ s.size
    · rw [full_yes _ _ _ _ (by omega) (.inl (by omega))]
      exact full_fast3 s w hT h0 hX hn
    · rcases (show s.size = 1 ∨ s.size = 2 by omega) with hs | hs
      · rw [full_not _ _ _ _ (by rw [hk, hlo, hhi]; omega)]
        exact full_slow3_1 s w hT hs hX
      · by_cases k0 : (s.get! 1).toNat < 128
        · rw [full_yes _ _ _ _ (by omega) (by rw [hk, hlo, hhi]; omega)]
          exact full_slow3_2a s w hT hs hX k0
        · by_cases k1 : 191 < (s.get! 1).toNat
          · rw [full_yes _ _ _ _ (by omega) (by rw [hk, hlo, hhi]; omega)]
            exact full_slow3_2b s w hT hs hX k0 k1
          · rw [full_not _ _ _ _ (by rw [hk, hlo, hhi]; omega)]
            exact full_slow3_2c s w hT hs hX k0 k1
  · have hk : firstT (s.get! 0).toNat % 8 = 3 := by rw [hX]
    have hlo : accLo (firstT (s.get! 0).toNat / 16) = 128 := by rw [hX]; rfl
    have hhi : accHi (firstT (s.get! 0).toNat / 16) = 159 := by rw [hX]; rfl
    by_cases hn : 3 ≤ s.size
    · rw [full_yes _ _ _ _ (by omega) (.inl (by omega))]
      exact full_fast35 s w hT h0 hX hn
    · rcases (show s.size = 1 ∨ s.size = 2 by omega) with hs | hs
      · rw [full_not _ _ _ _ (by rw [hk, hlo, hhi]; omega)]
        exact full_slow35_1 s w hT hs hX
      · by_cases k0 : (s.get! 1).toNat < 128
        · rw [full_yes _ _ _ _ (by omega) (by rw [hk, hlo, hhi]; omega)]
          exact full_slow35_2a s w hT hs hX k0
        · by_cases k1 : 159 < (s.get! 1).toNat
          · rw [full_yes _ _ _ _ (by omega) (by rw [hk, hlo, hhi]; omega)]
            exact full_slow35_2b s w hT hs hX k0 k1
          · rw [full_not _ _ _ _ (by rw [hk, hlo, hhi]; omega)]
            exact full_slow35_2c s w hT hs hX k0 k1
  · have hk : firstT (s.get! 0).toNat % 8 = 4 := by rw [hX]
    have hlo : accLo (firstT (s.get! 0).toNat / 16) = 144 := by rw [hX]; rfl
    have hhi : accHi (firstT (s.get! 0).toNat / 16) = 191 := by rw [hX]; rfl
    by_cases hn : 4 ≤ s.size
    · rw [full_yes _ _ _ _ (by omega) (.inl (by omega))]
      exact full_fast52 s w hT h0 hX hn
    · rcases (show s.size = 1 ∨ s.size = 2 ∨ s.size = 3 by omega) with hs | hs | hs
      · rw [full_not _ _ _ _ (by rw [hk, hlo, hhi]; omega)]
        exact full_slow52_1 s w hT hs hX
      · by_cases k0 : (s.get! 1).toNat < 144
        · rw [full_yes _ _ _ _ (by omega) (by rw [hk, hlo, hhi]; omega)]
          exact full_slow52_2a s w hT hs hX k0
        · by_cases k1 : 191 < (s.get! 1).toNat
          · rw [full_yes _ _ _ _ (by omega) (by rw [hk, hlo, hhi]; omega)]
            exact full_slow52_2b s w hT hs hX k0 k1
          · rw [full_not _ _ _ _ (by rw [hk, hlo, hhi]; omega)]
            exact full_slow52_2c s w hT hs hX k0 k1
      · by_cases k0 : (s.get! 1).toNat < 144
        · rw [full_yes _ _ _ _ (by omega) (by rw [hk, hlo, hhi]; omega)]
          exact full_slow52_3a s w hT hs hX k0
        · by_cases k1 : 191 < (s.get! 1).toNat
          · rw [full_yes _ _ _ _ (by omega) (by rw [hk, hlo, hhi]; omega)]
            exact full_slow52_3b s w hT hs hX k0 k1
          · by_cases k2 : (s.get! 2).toNat < 128
            · rw [full_yes _ _ _ _ (by omega) (by rw [hk, hlo, hhi]; omega)]
              exact full_slow52_3c s w hT hs hX k0 k1 k2
            · by_cases k3 : 191 < (s.get! 2).toNat
              · rw [full_yes _ _ _ _ (by omega) (by rw [hk, hlo, hhi]; omega)]
                exact full_slow52_3d s w hT hs hX k0 k1 k2 k3
              · rw [full_not _ _ _ _ (by rw [hk, hlo, hhi]; omega)]
                exact full_slow52_3e s w hT hs hX k0 k1 k2 k3
  · have hk : firstT (s.get! 0).toNat % 8 = 4 := by rw [hX]
    have hlo : accLo (firstT (s.get! 0).toNat / 16) = 128 := by rw [hX]; rfl
    have hhi : accHi (firstT (s.get! 0).toNat / 16) = 191 := by rw [hX]; rfl
    by_cases hn : 4 ≤ s.size
    · rw [full_yes _ _ _ _ (by omega) (.inl (by omega))]
      exact full_fast4 s w hT h0 hX hn
    · rcases (show s.size = 1 ∨ s.size = 2 ∨ s.size = 3 by omega) with hs | hs | hs
      · rw [full_not _ _ _ _ (by rw [hk, hlo, hhi]; omega)]
        exact full_slow4_1 s w hT hs hX
      · by_cases k0 : (s.get! 1).toNat < 128
        · rw [full_yes _ _ _ _ (by omega) (by rw [hk, hlo, hhi]; omega)]
          exact full_slow4_2a s w hT hs hX k0
        · by_cases k1 : 191 < (s.get! 1).toNat
          · rw [full_yes _ _ _ _ (by omega) (by rw [hk, hlo, hhi]; omega)]
            exact full_slow4_2b s w hT hs hX k0 k1
          · rw [full_not _ _ _ _ (by rw [hk, hlo, hhi]; omega)]
            exact full_slow4_2c s w hT hs hX k0 k1
      · by_cases k0 : (s.get! 1).toNat < 128
        · rw [full_yes _ _ _ _ (by omega) (by rw [hk, hlo, hhi]; omega)]
          exact full_slow4_3a s w hT hs hX k0
        · by_cases k1 : 191 < (s.get! 1).toNat
          · rw [full_yes _ _ _ _ (by omega) (by rw [hk, hlo, hhi]; omega)]
            exact full_slow4_3b s w hT hs hX k0 k1
          · by_cases k2 : (s.get! 2).toNat < 128
            · rw [full_yes _ _ _ _ (by omega) (by rw [hk, hlo, hhi]; omega)]
              exact full_slow4_3c s w hT hs hX k0 k1 k2
            · by_cases k3 : 191 < (s.get! 2).toNat
              · rw [full_yes _ _ _ _ (by omega) (by rw [hk, hlo, hhi]; omega)]
                exact full_slow4_3d s w hT hs hX k0 k1 k2 k3
              · rw [full_not _ _ _ _ (by rw [hk, hlo, hhi]; omega)]
                exact full_slow4_3e s w hT hs hX k0 k1 k2 k3
  · have hk : firstT (s.get! 0).toNat % 8 = 4 := by rw [hX]
    have hlo : accLo (firstT (s.get! 0).toNat / 16) = 128 := by rw [hX]; rfl
    have hhi : accHi (firstT (s.get! 0).toNat / 16) = 143 := by rw [hX]; rfl
    by_cases hn : 4 ≤ s.size
    · rw [full_yes _ _ _ _ (by omega) (.inl (by omega))]
      exact full_fast68 s w hT h0 hX hn
    · rcases (show s.size = 1 ∨ s.size = 2 ∨ s.size = 3 by omega) with hs | hs | hs
      · rw [full_not _ _ _ _ (by rw [hk, hlo, hhi]; omega)]
        exact full_slow68_1 s w hT hs hX
      · by_cases k0 : (s.get! 1).toNat < 128
        · rw [full_yes _ _ _ _ (by omega) (by rw [hk, hlo, hhi]; omega)]
          exact full_slow68_2a s w hT hs hX k0
        · by_cases k1 : 143 < (s.get! 1).toNat
          · rw [full_yes _ _ _ _ (by omega) (by rw [hk, hlo, hhi]; omega)]
            exact full_slow68_2b s w hT hs hX k0 k1
          · rw [full_not _ _ _ _ (by rw [hk, hlo, hhi]; omega)]
            exact full_slow68_2c s w hT hs hX k0 k1
      · by_cases k0 : (s.get! 1).toNat < 128
        · rw [full_yes _ _ _ _ (by omega) (by rw [hk, hlo, hhi]; omega)]
          exact full_slow68_3a s w hT hs hX k0
        · by_cases k1 : 143 < (s.get! 1).toNat
          · rw [full_yes _ _ _ _ (by omega) (by rw [hk, hlo, hhi]; omega)]
            exact full_slow68_3b s w hT hs hX k0 k1
          · by_cases k2 : (s.get! 2).toNat < 128
            · rw [full_yes _ _ _ _ (by omega) (by rw [hk, hlo, hhi]; omega)]
              exact full_slow68_3c s w hT hs hX k0 k1 k2
            · by_cases k3 : 191 < (s.get! 2).toNat
              · rw [full_yes _ _ _ _ (by omega) (by rw [hk, hlo, hhi]; omega)]
                exact full_slow68_3d s w hT hs hX k0 k1 k2 k3
              · rw [full_not _ _ _ _ (by rw [hk, hlo, hhi]; omega)]
                exact full_slow68_3e s w hT hs hX k0 k1 k2 k3
end Go.Proofs.YtgkbgckpdkdngaaDoor
