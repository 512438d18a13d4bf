/- What the statements of layer 14 keep in memory: the area and the caret that they were given, in blocks of their own. Conditions: none. -/
import Derived.Test.YtdcbiknlihfhcaaCaret4
import Derived.Test.YtdcbiknlihfhcaaOpen10
import Derived.Test.YtdcbiknlihfhcaaRely2
import Derived.Test.YtdcbiknlihfhcaaHeld
import Derived.Test.YtdcbiknlihfhcaaRely3
namespace Go.Proofs.Ytdcbiknlihfhcaa
open Go.ChangeShapes Go.WideShapes Go.RowKit
/-- In W the area lies at block z and the caret behind it, and nothing of w has turned. -/
structure BothAt (w W : World) (z : Nat) (R C T B : Int) (o : Bool) (r c : Int) (q : Bool) : Prop where
  area : Blk W z 23 [.int .i64 R, .int .i64 C, .int .i64 T, .int .i64 B, .bool o]
  caret : Blk W (z + 1) 25 [.int .i64 r, .int .i64 c, .bool q]
  bel : Below w.heap.size w W
theorem BothAt.keep {w W W' : World} {z : Nat} {R C T B : Int} {o : Bool} {r c : Int} {q : Bool} (h : BothAt w W z R C T B o r c q) (hb : Below W.heap.size W W') : BothAt w W' z R C T B o r c q :=
  ⟨h.area.below hb h.area.lt, h.caret.below hb h.caret.lt, h.bel.trans (hb.mono h.bel.size)⟩
theorem BothAt.new (w : World) {z : Nat} (hz : w.heap.size = z) (R C T B : Int) (o : Bool) (r c : Int) (q : Bool) :
    BothAt w ((w.alloc (.cells #[.int .i64 R, .int .i64 C, .int .i64 T, .int .i64 B, .bool o] 23)).alloc (.cells #[.int .i64 r, .int .i64 c, .bool q] 25)) z R C T B o r c q := by
  subst hz
  exact ⟨(Blk.new w _ _).alloc _, blk2 w _ _ _, below2 w _ _⟩
theorem fiveA {W : World} {z : Nat} {t : TypeId} {R C T B : Int} {o : Bool} (h : Blk W z t [.int .i64 R, .int .i64 C, .int .i64 T, .int .i64 B, .bool o]) :
    W.cell? ⟨z, 0, none⟩ = some (.int .i64 R) ∧ W.cell? ⟨z, 1, none⟩ = some (.int .i64 C) ∧ W.cell? ⟨z, 2, none⟩ = some (.int .i64 T) ∧ W.cell? ⟨z, 3, none⟩ = some (.int .i64 B) ∧ W.cell? ⟨z, 4, none⟩ = some (.bool o) :=
  ⟨h.cell 0, h.cell 1, h.cell 2, h.cell 3, h.cell 4⟩
theorem threeA {W : World} {z : Nat} {t : TypeId} {r c : Int} {q : Bool} (h : Blk W z t [.int .i64 r, .int .i64 c, .bool q]) :
    W.cell? ⟨z, 0, none⟩ = some (.int .i64 r) ∧ W.cell? ⟨z, 1, none⟩ = some (.int .i64 c) ∧ W.cell? ⟨z, 2, none⟩ = some (.bool q) :=
  ⟨h.cell 0, h.cell 1, h.cell 2⟩
theorem run_eq_caret (W : World) (r c : Int) (q : Bool) : (Op.equalIn 10000 25 (.agg #[.int .i64 r, .int .i64 c, .bool q]) (.agg #[.int .i64 r, .int .i64 c, .bool q])).run Try.prog W = .ok true W := by go_simp
theorem run_eq_area (W : World) (R C T B : Int) (o : Bool) : (Op.equalIn 10000 23 (.agg #[.int .i64 R, .int .i64 C, .int .i64 T, .int .i64 B, .bool o]) (.agg #[.int .i64 R, .int .i64 C, .int .i64 T, .int .i64 B, .bool o])).run Try.prog W = .ok true W := by go_simp
end Go.Proofs.Ytdcbiknlihfhcaa
