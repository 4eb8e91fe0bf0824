/- The contracts of the draws that the laws on rows begin with. -/
import Derived.Test.YtjchmjbgboeolaaRowDraw2
namespace Go.Proofs.Ytjchmjbgboeolaa
open Go.RowKit
theorem row_any (C : Nat) (a : Option Addr) (len cap p : Nat) (seed : Int) (w : World) (h : Dr w C a len cap p seed) (hp : p ≤ 500000) :
    Calls Try.prog 51 #[.pointer (some ⟨C, 0, none⟩)] w (RowEnd C a len cap p 200 w) := by
  have S := Lib.hid (someRow_any C a len cap p seed w h hp)
  clear h
  go_enter Try.func51, Try.ntmps51
  go_wp2_with fail
  refine S.out.mono ?_
  rintro e w1 ⟨v, xs, s1, p1, rfl, r1⟩
  have R := Lib.hid r1
  clear r1
  go_wp2
  go_ret
  exact ⟨v, xs, s1, p1, rfl, R.out⟩
theorem dr_new (w : World) (a : Option Addr) (len cap : Nat) (t : TypeId) (h : CodeAt w w.heap.size a len) : Dr (w.alloc (.cells #[.slice a len cap, .int .i64 0, .int .u64 0] t)) w.heap.size a len cap 0 0 :=
  ⟨cur_new w _ t, code_new h⟩
def DrawEnd (k : Nat) (w : World) (e : Ending) (w' : World) : Prop :=
  ∃ (v : Value) (xs : List (Int × Int)) (zs : List Int), zs.length = k ∧ e = .returned (.tuple (#[v] ++ (zs.map (Value.int .i64)).toArray)) ∧ SRow w' v xs ∧ xs.length ≤ 13 ∧ Lo w w'
def TipEnd (w : World) (e : Ending) (w' : World) : Prop :=
  ∃ (v : Value) (xs : List (Int × Int)) (x y : Int), e = .returned (.tuple #[v, .int .i64 x, .int .i64 y]) ∧ SRow w' v xs ∧ xs.length ≤ 13 ∧ Lo w w'
def MomEnd (w : World) (e : Ending) (w' : World) : Prop :=
  ∃ (v : Value) (xs : List (Int × Int)) (x : Int), e = .returned (.tuple #[v, .int .i64 x]) ∧ SRow w' v xs ∧ xs.length ≤ 13 ∧ Lo w w'
def CntEnd (w : World) (e : Ending) (w' : World) : Prop :=
  ∃ (v : Value) (xs : List (Int × Int)) (x y z : Int), e = .returned (.tuple #[v, .int .i64 x, .int .i64 y, .int .i64 z]) ∧ SRow w' v xs ∧ xs.length ≤ 13 ∧ Lo w w'
theorem SRow.only {w w' : World} {B C : Nat} {v : Value} {xs : List (Int × Int)} (h : OwnL w B v xs) (hv : v ≠ .slice none 0 0) (o : Only C w w') (hC : C < B) : SRow w' v xs := sRow_own (h.only o hC) hv
set_option maxHeartbeats 1600000 in
theorem drawLeast_any (a : Option Addr) (len cap : Nat) (w : World) (h : CodeAt w w.heap.size a len) :
    Calls Try.prog 32 #[.slice a len cap] w (CntEnd w) := by
  have RR := Lib.hid (row_any w.heap.size a len cap 0 0 _ (dr_new w a len cap 66 h) (by omega))
  clear h
  go_enter Try.func32, Try.ntmps32
  go_wp2_with fail
  refine RR.out.mono ?_
  rintro e w1 ⟨v, xs, s1, p1, rfl, o1, n1, hl, hp1, d1, b1⟩
  have O1 := Lib.hid o1
  have N1 := Lib.hid n1
  have B1 := Lib.hid b1
  have BS := Lib.hid (base_any w.heap.size a len cap p1 s1 w1 d1 (by omega))
  clear o1 n1 d1 b1 RR
  go_wp2_with fail
  refine BS.out.mono ?_
  rintro e w2 ⟨x, y, s2, p2, rfl, hp2, d2, b2⟩
  have B2 := Lib.hid (B1.out.trans b2)
  have O2 := Lib.hid (O1.out.only b2 (by simp))
  have PP := Lib.hid (placeIn_any w.heap.size a len cap p2 s2 w2 d2 (by omega))
  clear d2 b2 BS
  go_wp2_with fail
  refine PP.out.mono ?_
  rintro e w3 ⟨z, s3, p3, rfl, _, _, _, b3⟩
  have S3 := Lib.hid (SRow.only O2.out N1.out b3 (by simp))
  have L3 := Lib.hid (lo_only (B2.out.trans b3))
  clear b3 PP
  go_wp2
  refine bodyPost_ret (v := .tuple #[v, .int .i64 x, .int .i64 y, .int .i64 z]) (by simp [results, Try.results32, go_sem]) rfl ⟨v, xs, x, y, z, rfl, S3.out, hl, L3.out⟩
theorem any7 {x0 x1 x2 x3 x4 x5 x6 : Int} : ∀ j, j < 7 → ∃ z, (#[.int .i64 x0, .int .i64 x1, .int .i64 x2, .int .i64 x3, .int .i64 x4, .int .i64 x5, .int .i64 x6] : Array Value)[j]? = some (.int .i64 z) ∧ True := by
  intro j hj
  have : j = 0 ∨ j = 1 ∨ j = 2 ∨ j = 3 ∨ j = 4 ∨ j = 5 ∨ j = 6 := by omega
  rcases this with rfl | rfl | rfl | rfl | rfl | rfl | rfl <;> exact ⟨_, rfl, trivial⟩
set_option maxHeartbeats 1600000 in
theorem drawStand_any (a : Option Addr) (len cap : Nat) (w : World) (h : CodeAt w w.heap.size a len) :
    Calls Try.prog 31 #[.slice a len cap] w (CntEnd w) := by
  have RR := Lib.hid (row_any w.heap.size a len cap 0 0 _ (dr_new w a len cap 66 h) (by omega))
  clear h
  go_enter Try.func31, Try.ntmps31
  go_wp2_with fail
  refine RR.out.mono ?_
  rintro e w1 ⟨v, xs, s1, p1, rfl, o1, n1, hl, hp1, d1, b1⟩
  have O1 := Lib.hid o1
  have N1 := Lib.hid n1
  have B1 := Lib.hid b1
  have BS := Lib.hid (base_any w.heap.size a len cap p1 s1 w1 d1 (by omega))
  clear o1 n1 d1 b1 RR
  go_wp2_with fail
  refine BS.out.mono ?_
  rintro e w2 ⟨x, y, s2, p2, rfl, hp2, d2, b2⟩
  have B2 := Lib.hid (B1.out.trans b2)
  have O2 := Lib.hid (O1.out.only b2 (by simp))
  have D2 := Lib.hid d2
  clear d2 b2 BS
  go_wp2_with fail
  refine (among_new w.heap.size a len cap p2 7 s2 w2 _ _ (fun _ => True) D2.out (by omega) (by omega) (by omega) any7).mono ?_
  rintro e w3 ⟨z, s3, p3, rfl, _, _, _, b3⟩
  have S3 := Lib.hid (SRow.only O2.out N1.out b3 (by simp))
  have L3 := Lib.hid (lo_only (B2.out.trans b3))
  clear b3
  go_wp2
  refine bodyPost_ret (v := .tuple #[v, .int .i64 x, .int .i64 y, .int .i64 z]) (by simp [results, Try.results31, go_sem]) rfl ⟨v, xs, x, y, z, rfl, S3.out, hl, L3.out⟩
end Go.Proofs.Ytjchmjbgboeolaa
