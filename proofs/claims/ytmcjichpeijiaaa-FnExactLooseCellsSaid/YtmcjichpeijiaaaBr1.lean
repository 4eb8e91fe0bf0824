/- The model's middles, ground and side of a body. -/
import Derived.Test.YtmcjichpeijiaaaBo8
namespace Go.Proofs.Ytmcjichpeijiaaa
open Go.RowKit Go.Maps
theorem BodF.sm {xs : List (Int × Int)} (h : BodF xs) : ∀ c ∈ xs, SmC c := fun c hc => by
  have := h.hi c hc; unfold SmC; omega
theorem mid_small (f : Int × Int → Int) {xs : List (Int × Int)} (h : ∀ c ∈ xs, -1000 ≤ f c ∧ f c ≤ 1000) (hn : xs.length ≤ 1000) (k : Nat) : -3000000 ≤ midF f (xs.take k) ∧ midF f (xs.take k) ≤ 3000000 := by
  have := midF_bound f 1000 (xs.take k) (fun c hc => h c (List.mem_of_mem_take hc))
  have hl : (xs.take k).length ≤ 1000 := by rw [List.length_take]; omega
  omega
set_option maxHeartbeats 800000 in
theorem l8Middle_x (v : Value) (xs : List (Int × Int)) (w : World) (hr : LoadRow w v xs) (hs : ∀ c ∈ xs, SmC c) (hn : xs.length ≤ 1000) :
    Calls Try.prog 90 #[v, .int .i64 0] w fun e w' => e = .returned (.int .i64 (midF Prod.fst xs)) ∧ w' = w := by
  have HB := Lib.hid (fun k => mid_small Prod.fst (fun c hc => (hs c hc).1) hn k)
  have HS := Lib.hid hs
  clear hs
  obtain ⟨a, c, rfl, hr⟩ := hr
  go_enter Try.func90, Try.ntmps90
  go_wp2
  go_loopw [5, 6] (fun s i wr => ∃ k : Nat, k ≤ xs.length ∧ i = .int .i64 k ∧ s = .int .i64 (midF Prod.fst (xs.take k)) ∧ wr = w) (fun _ i _ => xs.length - (intOf i).toNat)
  case atStart => exact ⟨0, Nat.zero_le _, rfl, rfl, rfl⟩
  case round =>
    obtain ⟨k, hk, rfl, rfl, rfl⟩ := hrel
    by_cases hlt : k < xs.length
    · rcases hr with h | ⟨g, off, rfl, _, hc⟩
      · subst h; simp at hlt
      have h1 := (hc k hlt).1
      have hlt' : (k : Int) < (xs.length : Int) := by omega
      have b1 := HB.out k
      have b2 := HB.out (k + 1)
      have b3 := (HS.out _ (mem_getD hlt)).1
      have hst := midF_take Prod.fst xs k hlt
      obtain ⟨y, hy⟩ : ∃ y, midF Prod.fst (xs.take k) = y := ⟨_, rfl⟩
      obtain ⟨z, hz⟩ : ∃ z, midF Prod.fst (xs.take (k + 1)) = z := ⟨_, rfl⟩
      generalize (xs.getD k (0, 0)).1 = x at h1 hst b3
      rw [hy] at hst b1 ⊢
      rw [hz] at hst b2
      have HZ := Lib.hid hz
      have HST := Lib.hid hst
      obtain ⟨b11, b12⟩ := b1
      obtain ⟨b31, b32⟩ := b3
      clear hc hy hz hst b2
      go_wp2
      go_roundw
      case rel => exact ⟨k + 1, by omega, by go_num, by rw [HZ.out, HST.out], trivial⟩
      case measure => simp [intOf]; omega
    · obtain rfl : k = xs.length := by omega
      have hge : ¬ (xs.length : Int) < (xs.length : Int) := by omega
      rw [List.take_length]
      go_wp2
      go_ret
      exact ⟨rfl, rfl⟩
set_option maxHeartbeats 800000 in
theorem l8Middle_y (v : Value) (xs : List (Int × Int)) (w : World) (hr : LoadRow w v xs) (hs : ∀ c ∈ xs, SmC c) (hn : xs.length ≤ 1000) :
    Calls Try.prog 90 #[v, .int .i64 1] w fun e w' => e = .returned (.int .i64 (midF Prod.snd xs)) ∧ w' = w := by
  have HB := Lib.hid (fun k => mid_small Prod.snd (fun c hc => (hs c hc).2) hn k)
  have HS := Lib.hid hs
  clear hs
  obtain ⟨a, c, rfl, hr⟩ := hr
  go_enter Try.func90, Try.ntmps90
  go_wp2
  go_loopw [5, 6] (fun s i wr => ∃ k : Nat, k ≤ xs.length ∧ i = .int .i64 k ∧ s = .int .i64 (midF Prod.snd (xs.take k)) ∧ wr = w) (fun _ i _ => xs.length - (intOf i).toNat)
  case atStart => exact ⟨0, Nat.zero_le _, rfl, rfl, rfl⟩
  case round =>
    obtain ⟨k, hk, rfl, rfl, rfl⟩ := hrel
    by_cases hlt : k < xs.length
    · rcases hr with h | ⟨g, off, rfl, _, hc⟩
      · subst h; simp at hlt
      have h1 := (hc k hlt).2
      have hlt' : (k : Int) < (xs.length : Int) := by omega
      have b1 := HB.out k
      have b2 := HB.out (k + 1)
      have b3 := (HS.out _ (mem_getD hlt)).2
      have hst := midF_take Prod.snd xs k hlt
      obtain ⟨y, hy⟩ : ∃ y, midF Prod.snd (xs.take k) = y := ⟨_, rfl⟩
      obtain ⟨z, hz⟩ : ∃ z, midF Prod.snd (xs.take (k + 1)) = z := ⟨_, rfl⟩
      generalize (xs.getD k (0, 0)).2 = x at h1 hst b3
      rw [hy] at hst b1 ⊢
      rw [hz] at hst b2
      have HZ := Lib.hid hz
      have HST := Lib.hid hst
      obtain ⟨b11, b12⟩ := b1
      obtain ⟨b31, b32⟩ := b3
      clear hc hy hz hst b2
      go_wp2
      go_roundw
      case rel => exact ⟨k + 1, by omega, by go_num, by rw [HZ.out, HST.out], trivial⟩
      case measure => simp [intOf]; omega
    · obtain rfl : k = xs.length := by omega
      have hge : ¬ (xs.length : Int) < (xs.length : Int) := by omega
      rw [List.take_length]
      go_wp2
      go_ret
      exact ⟨rfl, rfl⟩
set_option maxHeartbeats 800000 in
theorem l8Ground_any (v : Value) (xs : List (Int × Int)) (w : World) (hr : LoadRow w v xs) (hs : ∀ c ∈ xs, SmC c) (hn : xs.length ≤ 1000) :
    Calls Try.prog 94 #[v] w fun e w' => e = .returned (.tuple #[.int .i64 (gloF xs), .int .i64 (ghiF xs)]) ∧ w' = w := by
  have HS := Lib.hid hs
  clear hs
  obtain ⟨a, c, rfl, hr⟩ := hr
  go_enter Try.func94, Try.ntmps94
  go_wp2
  go_loopw [4, 5, 6] (fun s t i wr => ∃ k : Nat, k ≤ xs.length ∧ i = .int .i64 k ∧ s = .int .i64 (gloF (xs.take k)) ∧ t = .int .i64 (ghiF (xs.take k)) ∧ wr = w) (fun _ _ i _ => xs.length - (intOf i).toNat)
  case atStart => exact ⟨0, Nat.zero_le _, rfl, rfl, rfl, rfl⟩
  case round =>
    obtain ⟨k, hk, rfl, rfl, rfl, rfl⟩ := hrel
    by_cases hlt : k < xs.length
    · rcases hr with h | ⟨g, off, rfl, _, hc⟩
      · subst h; simp at hlt
      obtain ⟨h1, h2⟩ := hc k hlt
      have hlt' : (k : Int) < (xs.length : Int) := by omega
      have b3 := (HS.out _ (mem_getD hlt)).1
      have S1 := Lib.hid (show gloF (xs.take (k + 1)) = if (xs.getD k (0, 0)).2 = 0 ∧ gloF (xs.take k) < 0 then (xs.getD k (0, 0)).1 else gloF (xs.take k) by rw [take_snocC xs k hlt, gloF_snoc])
      have S2 := Lib.hid (show ghiF (xs.take (k + 1)) = if (xs.getD k (0, 0)).2 = 0 then (xs.getD k (0, 0)).1 + 1 else ghiF (xs.take k) by rw [take_snocC xs k hlt, ghiF_snoc])
      generalize gloF (xs.take k) = lo at S1 ⊢
      generalize ghiF (xs.take k) = hi at S2 ⊢
      generalize (xs.getD k (0, 0)).1 = x at h1 b3 S1 S2
      generalize (xs.getD k (0, 0)).2 = y at h2 S1 S2
      obtain ⟨b31, b32⟩ := b3
      clear hc
      by_cases hy : y = 0
      · subst hy
        by_cases hl : lo < 0
        · go_wp2
          go_roundw
          case rel => exact ⟨k + 1, by omega, by go_num, by rw [S1.out, if_pos ⟨rfl, hl⟩], by rw [S2.out, if_pos rfl], trivial⟩
          case measure => simp [intOf]; omega
        · go_wp2
          go_roundw
          case rel => exact ⟨k + 1, by omega, by go_num, by rw [S1.out, if_neg (fun h => hl h.2)], by rw [S2.out, if_pos rfl], trivial⟩
          case measure => simp [intOf]; omega
      · have hy' : (y == 0) = false := by simpa using hy
        go_wp2
        go_roundw
        case rel => exact ⟨k + 1, by omega, by go_num, by rw [S1.out, if_neg (fun h => hy h.1)], by rw [S2.out, if_neg hy], trivial⟩
        case measure => simp [intOf]; omega
    · obtain rfl : k = xs.length := by omega
      have hge : ¬ (xs.length : Int) < (xs.length : Int) := by omega
      rw [List.take_length]
      go_wp2
      go_ret2
      exact ⟨rfl, rfl⟩
set_option maxHeartbeats 800000 in
theorem l8Over_any (s n l h : Int) (w : World) (hn : -10000 ≤ n ∧ n ≤ 10000) (hl : -10000 ≤ l ∧ l ≤ 10000) (hh : -10000 ≤ h ∧ h ≤ 10000) :
    Calls Try.prog 116 #[.int .i64 s, .int .i64 n, .int .i64 l, .int .i64 h] w fun e w' => e = .returned (.int .i64 (ovF s n l h)) ∧ w' = w := by
  have key : ∀ x : Int, -10000 ≤ x ∧ x ≤ 10000 → -9223372036854775808 ≤ 2 * n * x ∧ 2 * n * x ≤ 9223372036854775807 := by
    intro x hx
    have h1 : (2 * n * x).natAbs ≤ 20000 * 10000 := by
      rw [Int.natAbs_mul]
      exact Nat.mul_le_mul (by omega) (by omega)
    omega
  have k1 := key l hl
  have k2 := key h hh
  obtain ⟨n1, n2⟩ := hn
  obtain ⟨k11, k12⟩ := k1
  obtain ⟨k21, k22⟩ := k2
  clear key hl hh
  unfold ovF
  by_cases h1 : s < 2 * n * l
  · rw [if_pos h1]
    go_enter Try.func116, Try.ntmps116
    go_wp2
    go_ret
    exact ⟨rfl, rfl⟩
  · rw [if_neg h1]
    by_cases h2 : 2 * n * h < s
    case' pos => rw [if_pos h2]
    case' neg => rw [if_neg h2]
    all_goals
      (go_enter Try.func116, Try.ntmps116
       go_wp2
       go_ret
       exact ⟨rfl, rfl⟩)
theorem BodF.gro {xs : List (Int × Int)} (h : BodF xs) : (0 ≤ gloF xs ∧ gloF xs ≤ 11) ∧ 1 ≤ ghiF xs ∧ ghiF xs ≤ 12 := by
  obtain ⟨h1, h2, _⟩ := h.ground
  have a := h.hi _ h1
  have b := h.hi _ h2
  simp only at a b
  omega
set_option maxHeartbeats 800000 in
theorem l8Side_any (v : Value) (xs : List (Int × Int)) (w : World) (hr : LoadRow w v xs) (hb : BodF xs) :
    Calls Try.prog 97 #[v] w fun e w' => e = .returned (.int .i64 (sideL xs)) ∧ w' = w := by
  have G := Lib.hid (l8Ground_any v xs w hr hb.sm (by have := hb.short; omega))
  have M := Lib.hid (l8Middle_x v xs w hr hb.sm (by have := hb.short; omega))
  have hg := hb.gro
  have O := Lib.hid (l8Over_any (midF Prod.fst xs) xs.length (gloF xs) (ghiF xs) w (by have := hb.short; omega) (by omega) (by omega))
  rw [show ovF (midF Prod.fst xs) xs.length (gloF xs) (ghiF xs) = sideL xs from rfl] at O
  generalize sideL xs = r at *
  generalize gloF xs = lo at *
  generalize ghiF xs = hi at *
  generalize midF Prod.fst xs = m at *
  obtain ⟨a, c, rfl, _⟩ := hr
  clear hb hg
  go_enter Try.func97, Try.ntmps97
  go_wp2_with fail
  refine G.out.mono ?_
  rintro e w' ⟨rfl, rfl⟩
  go_wp2_with fail
  refine M.out.mono ?_
  rintro e w' ⟨rfl, rfl⟩
  go_wp2_with fail
  refine O.out.mono ?_
  rintro e w' ⟨rfl, rfl⟩
  go_wp2
  go_ret
  exact ⟨rfl, rfl⟩
def bodI (b : Bool) (x : Int) : Int := if b = true then x else 0
theorem specGroundOf_any (v : Value) (xs : List (Int × Int)) (w : World) (hr : LoadRow w v xs) :
    Calls Try.prog 31 #[v] w fun e w' => e = .returned (.tuple #[.int .i64 (bodI (bodB xs) (gloF xs)), .int .i64 (bodI (bodB xs) (ghiF xs)), .bool (bodB xs)]) ∧ Below w.heap.size w w' := by
  have C := Lib.hid (l8Body_any v xs w hr)
  have G := Lib.hid (fun (w1 : World) (l : Below w.heap.size w w1) (hb : bodB xs = true) => l8Ground_any v xs w1 (hr.lo l) ((bodB_iff xs).1 hb).sm (by have := ((bodB_iff xs).1 hb).short; omega))
  generalize bodB xs = b at *
  generalize gloF xs = lo at *
  generalize ghiF xs = hi at *
  obtain ⟨a, c, rfl, _⟩ := hr
  unfold bodI
  cases b with
  | false =>
    go_enter Try.func31, Try.ntmps31
    go_wp2_with fail
    refine C.out.mono ?_
    rintro e w1 ⟨rfl, l1⟩
    go_wp2
    exact bodyPost_ret (v := .tuple #[.int .i64 _, .int .i64 _, .bool _]) (by simp [results, Try.results31, go_sem]) rfl ⟨rfl, l1⟩
  | true =>
    go_enter Try.func31, Try.ntmps31
    go_wp2_with fail
    refine C.out.mono ?_
    rintro e w1 ⟨rfl, l1⟩
    have G2 := Lib.hid (G.out w1 l1 (by first | trivial | rfl))
    go_wp2_with fail
    refine G2.out.mono ?_
    rintro e w' ⟨rfl, rfl⟩
    go_wp2
    exact bodyPost_ret (v := .tuple #[.int .i64 _, .int .i64 _, .bool _]) (by simp [results, Try.results31, go_sem]) rfl ⟨rfl, l1⟩
theorem specBodySide_any (v : Value) (xs : List (Int × Int)) (w : World) (hr : LoadRow w v xs) :
    Calls Try.prog 33 #[v] w fun e w' => e = .returned (.tuple #[.int .i64 (bodI (bodB xs) (sideL xs)), .bool (bodB xs)]) ∧ Below w.heap.size w w' := by
  have C := Lib.hid (l8Body_any v xs w hr)
  have G := Lib.hid (fun (w1 : World) (l : Below w.heap.size w w1) (hb : bodB xs = true) => l8Side_any v xs w1 (hr.lo l) ((bodB_iff xs).1 hb))
  generalize bodB xs = b at *
  generalize sideL xs = lo at *
  obtain ⟨a, c, rfl, _⟩ := hr
  unfold bodI
  cases b with
  | false =>
    go_enter Try.func33, Try.ntmps33
    go_wp2_with fail
    refine C.out.mono ?_
    rintro e w1 ⟨rfl, l1⟩
    go_wp2
    go_ret2
    exact ⟨rfl, l1⟩
  | true =>
    go_enter Try.func33, Try.ntmps33
    go_wp2_with fail
    refine C.out.mono ?_
    rintro e w1 ⟨rfl, l1⟩
    have G2 := Lib.hid (G.out w1 l1 (by first | trivial | rfl))
    go_wp2_with fail
    refine G2.out.mono ?_
    rintro e w' ⟨rfl, rfl⟩
    go_wp2
    go_ret2
    exact ⟨rfl, l1⟩
end Go.Proofs.Ytmcjichpeijiaaa
