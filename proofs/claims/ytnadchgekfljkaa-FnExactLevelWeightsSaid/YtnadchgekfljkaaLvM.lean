/- The contract of the model's l5Shares. -/
import Derived.Test.YtnadchgekfljkaaLvQ
import Derived.Test.YtnadchgekfljkaaRod5
import Derived.Test.YtnadchgekfljkaaMob2
import Derived.Test.YtnadchgekfljkaaFrac
import Derived.Deep.RegionHeld3
import Derived.Deep.AppendLies
namespace Go.Proofs.Ytnadchgekfljkaa
open Go.RowKit
def shZ (p : Nat × Nat) : Int × Int := ((p.1 : Int), (p.2 : Int))
/-- The cells of a block of shares are told by a function. -/
structure ShC (w : World) (g n : Nat) (f : Nat → Nat × Nat) : Prop where
  lt : g < w.heap.size
  c0 : ∀ j, j < n → w.cell? ⟨g, j * 2, none⟩ = some (.int .i64 ((f j).1 : Int))
  c1 : ∀ j, j < n → w.cell? ⟨g, j * 2 + 1, none⟩ = some (.int .i64 ((f j).2 : Int))
  fz : ∀ j, w.frozen? ⟨g, j, none⟩ = false
theorem ShC.set {w : World} {g n q : Nat} {f : Nat → Nat × Nat} (h : ShC w g n f) (hq : q < n) (p : Nat × Nat) :
    ShC ((w.setCell ⟨g, q * 2, none⟩ (.int .i64 (p.1 : Int))).setCell ⟨g, q * 2 + 1, none⟩ (.int .i64 (p.2 : Int))) g n (fun j => if j = q then p else f j) where
  lt := by simpa using h.lt
  c0 := fun j hj => by
    by_cases e : j = q
    · subst e
      rw [if_pos rfl, cell_keep _ _ _ _ _ (by omega)]
      exact cell_set _ _ _ _ (h.c0 j hj)
    · rw [if_neg e, cell_keep _ _ _ _ _ (by omega), cell_keep _ _ _ _ _ (by omega)]
      exact h.c0 j hj
  c1 := fun j hj => by
    by_cases e : j = q
    · subst e
      rw [if_pos rfl]
      exact cell_set _ _ _ _ ((cell_keep _ _ _ _ _ (by omega)).trans (h.c1 j hj))
    · rw [if_neg e, cell_keep _ _ _ _ _ (by omega), cell_keep _ _ _ _ _ (by omega)]
      exact h.c1 j hj
  fz := fun j => by rw [World.frozen?_setCell, World.frozen?_setCell]; exact h.fz j
theorem ShC.keep {w w' : World} {g n : Nat} {f : Nat → Nat × Nat} (h : ShC w g n f) (hs : w.heap.size ≤ w'.heap.size) (hc : w'.heap[g]? = w.heap[g]?) : ShC w' g n f :=
  ⟨Nat.lt_of_lt_of_le h.lt hs, fun j hj => (World.cell?_of_block hc).trans (h.c0 j hj), fun j hj => (World.cell?_of_block hc).trans (h.c1 j hj), fun j => (World.frozen?_of_block hc).trans (h.fz j)⟩
theorem ShC.lo {w w' : World} {g n : Nat} {f : Nat → Nat × Nat} (h : ShC w g n f) (l : Below w.heap.size w w') : ShC w' g n f := h.keep l.size (l.block _ h.lt)
theorem ShC.congr {w : World} {g n : Nat} {f f' : Nat → Nat × Nat} (h : ShC w g n f) (he : ∀ j, j < n → f j = f' j) : ShC w g n f' :=
  ⟨h.lt, fun j hj => by rw [← he j hj]; exact h.c0 j hj, fun j hj => by rw [← he j hj]; exact h.c1 j hj, h.fz⟩
theorem cell_far2 (w : World) (b o o2 : Nat) (u v : Value) (p : Addr) (h : p.block ≠ b) : ((w.setCell ⟨b, o, none⟩ u).setCell ⟨b, o2, none⟩ v).cell? p = w.cell? p := by
  rw [World.cell?_setCell_other _ _ _ _ (fun hh => h (congrArg Addr.block hh).symm), World.cell?_setCell_other _ _ _ _ (fun hh => h (congrArg Addr.block hh).symm)]
/-- A row of shares of its own. -/
def OwnS (w : World) (B : Nat) (v : Value) (xs : List (Int × Int)) : Prop := w.ownsRow B 101 2 v xs.length (cellsF xs)
theorem loadRow_ownS {w : World} {B : Nat} {v : Value} {xs : List (Int × Int)} (h : OwnS w B v xs) : LoadRow w v xs := by
  have h' := h
  unfold OwnS at h'
  rcases h'.2 with ⟨rfl, h0⟩ | ⟨g, cap, cur, rfl, _, hb, _⟩
  · have : xs = [] := List.length_eq_zero_iff.1 h0
    subst this
    exact ⟨none, 0, rfl, .inl rfl⟩
  · refine ⟨_, cap, rfl, .inr ⟨g, 0, rfl, (Array.getElem?_eq_some_iff.1 hb).1, fun j hj => ?_⟩⟩
    have hc := cellsF_at xs j hj
    rw [Nat.zero_add, h'.cellAt (j * 2) (by omega), h'.cellAt (j * 2 + 1) (by omega)]
    exact hc
theorem ownS_snoc {w : World} {B k : Nat} {v : Value} {ys : List (Int × Int)} {p q : Int} (h : w.ownsRow B 101 2 v (k + 1) (cellsF ys ++ [.int .i64 p, .int .i64 q])) (hk : ys.length = k) : OwnS w B v (ys ++ [(p, q)]) := by
  unfold OwnS
  rw [List.length_append, hk, cellsF_app]
  exact h
theorem infoShare : (Try.prog.info? 101).map (fun i => (i.zero, i.size, i.bytes)) = some (some (.agg #[.int .i64 0, .int .i64 0]), 2, 16) := by kernel_rfl
/-- A fraction of natural numbers, cut. -/
theorem cut_nat (a b : Nat) : cutA (a : Int) (b : Int) = (((cutN a b).1 : Nat) : Int) ∧ cutB (a : Int) (b : Int) = (((cutN a b).2 : Nat) : Int) := by
  constructor
  · show Int.tdiv (a : Int) ((Nat.gcd (a : Int).natAbs (b : Int).natAbs : Nat) : Int) = _
    rw [Int.natAbs_natCast, Int.natAbs_natCast, ← Int.ofNat_tdiv]
    rfl
  · show Int.tdiv (b : Int) ((Nat.gcd (a : Int).natAbs (b : Int).natAbs : Nat) : Int) = _
    rw [Int.natAbs_natCast, Int.natAbs_natCast, ← Int.ofNat_tdiv]
    rfl
theorem make_shares (n : Nat) (hn : n ≤ 1000000) (u : World) :
    (Instr.makeSlice 97 (.int .i64 (n : Int)) (.int .i64 (n : Int))).run Try.prog u = .ok (.slice (some ⟨u.heap.size, 0, none⟩) n n) (u.alloc (.cells (madeCells #[.int .i64 0, .int .i64 0] (n * 2)) 101)) := by
  obtain ⟨i0, hi, hz0, hz1, hz2⟩ := info_parts infoShare
  have h := run_make (P := Try.prog) u 97 101 i0 (.agg #[.int .i64 0, .int .i64 0]) Try.underlying97 hi hz0 .i64 .i64 (n : Int) (n : Int) (by omega) (Int.le_refl _) (by rw [hz2]; omega) (by omega)
  simpa [hz1, Value.cells] using h
theorem made_share (n j : Nat) (hj : j < n * 2) : (madeCells #[Value.int .i64 0, .int .i64 0] (n * 2))[j]? = some (.int .i64 0) := by
  have h : j % 2 = 0 ∨ j % 2 = 1 := by omega
  rcases h with h | h <;> simp [madeCells, hj, h]
theorem shE_list {m : MobV} (hf : MobF m) (T : Nat) (hT : T < 2 * m.am.length) : (endT (rodF m) (T + 1)).map (fun t => shZ (shE m t)) = if hvM m T < 0 then (endT (rodF m) T).map (fun t => shZ (shE m t)) else (endT (rodF m) T).map (fun t => shZ (shE m t)) ++ [shZ (shE m T)] := by
  have hb := be_rodF hf T hT
  have hh := (hf.ends T hT).2
  by_cases h : hvM m T < 0
  · rw [if_pos h, endT_no (fun e => by have := hb.1 e; omega)]
  · rw [if_neg h, endT_yes (hb.2 (by omega)), List.map_append]
    rfl
set_option maxRecDepth 100000 in
set_option maxHeartbeats 6400000 in
theorem specShares_any (v : Value) (m : MobV) (w : World) (hv : MobRow w v m) (hf : MobF m) :
    Calls Try.prog 96 #[v] w fun e w' => ∃ u, e = .returned u ∧ OwnS w' w.heap.size u ((lfT m).map (fun t => shZ (shE m t))) ∧ Below w.heap.size w w' := by
  have h1 := hf.one
  have h6 := hf.short
  have hs := hf.same
  obtain ⟨av, bv, rfl, ha, hh⟩ := hv
  obtain ⟨g, off, c, rfl, hgg, hca⟩ := pair_at ha (by omega)
  obtain ⟨g', off', c', rfl, hgg', hch⟩ := pair_at hh (by omega)
  obtain ⟨n, hn⟩ : ∃ n, m.am.length = n := ⟨_, rfl⟩
  have EC := Lib.hid (fun i e (h1 : i < n) (h2 : e < 2) => end_cells hn (hs.trans hn) hca hch i e h1 h2)
  have EN := Lib.hid (fun t (ht : t < 2 * n) => show EndF m t from hf.ends t (by omega))
  have SE := Lib.hid (fun T (hT : T < 2 * n) => And.intro (shR_end hf T (by omega)) (shE_all hf T (by omega)))
  have PB := Lib.hid (fun k (hk : k ≤ n) => show 1 ≤ prodN m k ∧ prodN m k ≤ 191102976 from ⟨(prodN_bnd hf k (by omega)).1, Nat.le_trans (prodN_bnd hf k (by omega)).2 (Nat.le_trans (Nat.pow_le_pow_right (by omega) (show k ≤ 6 by omega)) (by decide))⟩)
  have AL := Lib.hid (fun T (hT : T < 2 * n) => arm_le hf T (by omega))
  have AC := Lib.hid (fun t (ht : t < 2 * n) => arm_cast hf t (by omega))
  have BC := Lib.hid (fun i (hi : i < n) => both_cast hf i (by omega))
  have BB := Lib.hid (fun i (hi : i < n) => bothN_bnd hf i (by omega))
  have SL := Lib.hid (fun T (hT : T < 2 * n) => shE_list hf T (by omega))
  have HLF := Lib.hid (show lfT m = endT (rodF m) (2 * n) by unfold lfT; rw [hn])
  obtain ⟨V, hV⟩ : ∃ V, w.alloc (.cells #[.slice (some ⟨g, off, none⟩) n c, .slice (some ⟨g', off', none⟩) n c'] 27) = V := ⟨_, rfl⟩
  have LV := Lib.hid (show Below w.heap.size w V by rw [← hV]; exact (Below.refl _ _).alloc (Nat.le_refl _) _)
  have BV := Lib.hid (show Box2 V w.heap.size (.slice (some ⟨g, off, none⟩) n c) (.slice (some ⟨g', off', none⟩) n c') by rw [← hV]; exact box2_new _ _ _ _)
  have HVS := Lib.hid (show V.heap.size = w.heap.size + 1 by rw [← hV]; simp)
  have HMN := Lib.hid hn
  rw [hs, hn]
  rw [hn] at h1 h6
  have HM := make_shares n (by omega)
  obtain ⟨i0, hi, hz0, hz1, hz2⟩ := info_parts infoShare
  have h1' : (1 : Int) ≤ (n : Int) := by omega
  have h0' : (0 : Int) < (n : Int) := by omega
  clear ha hh hca hch hs hn hf
  obtain ⟨_, u0, u1⟩ := BV.out
  go_enter Try.func96, Try.ntmps96
  obtain ⟨Z, hZ⟩ : ∃ Z, (madeCells #[Value.int .i64 0, .int .i64 0] (n * 2)) = Z := ⟨_, rfl⟩
  rw [hZ] at HM
  have Z0 := Lib.hid (fun j (hj : j < n * 2) => show Z[j]? = some (Value.int .i64 0) by rw [← hZ]; exact made_share n j hj)
  clear hZ
  obtain ⟨V1, hV1⟩ : ∃ V1, V.alloc (.cells Z 101) = V1 := ⟨_, rfl⟩
  have L1 := Lib.hid (show Below V.heap.size V V1 by rw [← hV1]; exact (Below.refl _ _).alloc (Nat.le_refl _) _)
  have cz : ∀ j, j < n * 2 → V1.cell? ⟨V.heap.size, j, none⟩ = some (.int .i64 0) := fun j hj => by rw [← hV1, World.cell?_alloc_at _ _ _ _ rfl]; exact Z0.out j hj
  have fz : ∀ j, V1.frozen? ⟨V.heap.size, j, none⟩ = false := fun j => by rw [← hV1]; exact World.frozen?_alloc_at _ _ _ _ rfl
  have hs1 : V1.heap.size = V.heap.size + 1 := by rw [← hV1]; simp
  have C0 := Lib.hid (show ShC V1 V.heap.size n (fun _ => (0, 0)) from ⟨by omega, fun j hj => cz (j * 2) (by omega), fun j hj => cz (j * 2 + 1) (by omega), fz⟩)
  have z0 := cz 0 (by omega)
  have z1 := cz 1 (by omega)
  have f0 := fz 0
  have f1 := fz 1
  have HSH := Lib.hid (fun T j => shR_succ m T j)
  have C1 := Lib.hid (show ShC (((V1.setCell ⟨V.heap.size, 0, none⟩ (.int .i64 1)).setCell ⟨V.heap.size, 1, none⟩ (.int .i64 1)).alloc (.cells #[] 101)) V.heap.size n (shR m (2 * 0)) from
    (C0.out.set (q := 0) (by omega) (1, 1)).lo ((Below.refl _ _).alloc (Nat.le_refl _) _))
  have R0 := Lib.hid (show OwnS (((V1.setCell ⟨V.heap.size, 0, none⟩ (.int .i64 1)).setCell ⟨V.heap.size, 1, none⟩ (.int .i64 1)).alloc (.cells #[] 101)) (V.heap.size + 1) (.slice (some ⟨V.heap.size + 1, 0, none⟩) 0 0) ((endT (rodF m) (2 * 0)).map (fun t => shZ (shE m t))) by
    have := World.ownsRow_lit (e := 101) (size := 2) (base := V.heap.size + 1) ((V1.setCell ⟨V.heap.size, 0, none⟩ (.int .i64 1)).setCell ⟨V.heap.size, 1, none⟩ (.int .i64 1)) #[] 0 (by simp; omega) (by decide) rfl
    simpa [hs1, OwnS, endT, cellsF] using this)
  have M0 := Lib.hid (show Below V.heap.size V (((V1.setCell ⟨V.heap.size, 0, none⟩ (.int .i64 1)).setCell ⟨V.heap.size, 1, none⟩ (.int .i64 1)).alloc (.cells #[] 101)) from
    ((L1.out.setCell (p := ⟨V.heap.size, 0, none⟩) (Nat.le_refl _) _).setCell (p := ⟨V.heap.size, 1, none⟩) (Nat.le_refl _) _).alloc (by simp; omega) _)
  go_wp2_with fail
  clear hV hV1 u0 u1 z0 z1 f0 f1 cz fz Z0 C0 HM
  go_loopw [4, 5] (fun u x wr => ∃ k : Nat, k ≤ n ∧ x = .int .i64 k ∧ Hid (OwnS wr (V.heap.size + 1) u ((endT (rodF m) (2 * k)).map (fun t => shZ (shE m t)))) ∧ Hid (ShC wr V.heap.size n (shR m (2 * k))) ∧ Hid (Below V.heap.size V wr)) (fun _ x _ => n - (intOf x).toNat)
  case atStart => exact ⟨0, Nat.zero_le _, rfl, R0, C1, M0⟩
  case round =>
    obtain ⟨k, hk, rfl, HR, HC, HL⟩ := hrel
    obtain ⟨wq, rfl⟩ : ∃ wq : World, wq = wr := ⟨_, rfl⟩
    clear R0 C1 M0
    obtain ⟨_, u0, u1⟩ := BV.out.lo HL.out
    by_cases hlt : k < n
    · have hlt' : (k : Int) < (n : Int) := by omega
      go_wp2
      go_loopw [4, 6] (fun u x wr => ∃ e : Nat, e ≤ 2 ∧ x = .int .i64 e ∧ Hid (OwnS wr (V.heap.size + 1) u ((endT (rodF m) (2 * k + e)).map (fun t => shZ (shE m t)))) ∧ Hid (ShC wr V.heap.size n (shR m (2 * k + e))) ∧ Hid (Below V.heap.size V wr)) (fun _ x _ => 2 - (intOf x).toNat)
      case atStart => exact ⟨0, Nat.zero_le _, rfl, HR, HC, HL⟩
      case round =>
        obtain ⟨e, he, rfl, HRe, HCe, HLe⟩ := hrel
        obtain ⟨wx, rfl⟩ : ∃ wx : World, wx = wr := ⟨_, rfl⟩
        clear HR HC HL u0 u1
        by_cases hel : e < 2
        · have hel' : (e : Int) < 2 := by omega
          obtain ⟨_, u0, u1⟩ := BV.out.lo HLe.out
          have LX := LV.out.trans (HLe.out.mono LV.out.size)
          obtain ⟨f, hf⟩ : ∃ f, 1 - e = f := ⟨_, rfl⟩
          obtain ⟨_, e2⟩ := EC.out k e hlt hel
          obtain ⟨e1, _⟩ := EC.out k f hlt (by omega)
          obtain ⟨a0, _⟩ := EC.out k 0 hlt (by omega)
          obtain ⟨a1, _⟩ := EC.out k 1 hlt (by omega)
          rw [← LX.cell (p := ⟨g, off + k * 2 + f, none⟩) hgg] at e1
          rw [← LX.cell (p := ⟨g, off + k * 2 + 0, none⟩) hgg] at a0
          rw [← LX.cell (p := ⟨g, off + k * 2 + 1, none⟩) hgg] at a1
          simp only [Nat.add_zero] at a0
          obtain ⟨t, ht⟩ : ∃ t, 2 * k + e = t := ⟨_, rfl⟩
          rw [ht] at HRe HCe e2
          have HT := Lib.hid ht
          have htn : t < 2 * n := by omega
          have hot : otE t = 2 * k + f := by unfold otE; omega
          have hk2 : t / 2 = k := by omega
          obtain ⟨s1, s2⟩ := SE.out t htn
          rw [hk2] at s1 s2
          have c0 := HCe.out.c0 k hlt
          have c1 := HCe.out.c1 k hlt
          have hal := AL.out t htn
          have hac := AC.out (2 * k + f) (by omega)
          have hbc := BC.out k hlt
          have hbb := BB.out k hlt
          have hpb := PB.out k (by omega)
          have hpb1 := PB.out (k + 1) (by omega)
          have hpk : prodN m (k + 1) = prodN m k * bothN m k := rfl
          have hen := EN.out t htn
          unfold EndF at hen
          have hse : shE m t = cutN ((shR m t k).1 * armN m (2 * k + f)) ((shR m t k).2 * bothN m k) := by unfold shE; rw [hk2, hot]
          have hls := SL.out t htn
          have hrs := HSH.out t
          rw [hot, hk2] at hal
          have hp2 := Nat.le_of_dvd (by omega) s1.dvd
          have hp1 := s1.le
          have hp0 := s1.top
          obtain ⟨p1, hp1e⟩ : ∃ x, (shR m t k).1 = x := ⟨_, rfl⟩
          obtain ⟨p2, hp2e⟩ : ∃ x, (shR m t k).2 = x := ⟨_, rfl⟩
          rw [hp1e, hp2e] at hse hp1
          rw [hp1e] at c0 hp0
          rw [hp2e] at c1 hp2
          obtain ⟨x, hx⟩ : ∃ x, avM m (2 * k + f) = x := ⟨_, rfl⟩
          obtain ⟨y0, hy0⟩ : ∃ x, avM m (2 * k) = x := ⟨_, rfl⟩
          obtain ⟨y1, hy1⟩ : ∃ x, avM m (2 * k + 1) = x := ⟨_, rfl⟩
          obtain ⟨ar, har⟩ : ∃ x, armN m (2 * k + f) = x := ⟨_, rfl⟩
          obtain ⟨bo, hbo⟩ : ∃ x, bothN m k = x := ⟨_, rfl⟩
          rw [hx] at e1 hac
          rw [hy0] at hbc a0
          rw [hy1] at hbc
          rw [show 2 * k + 1 = 2 * k + 1 from rfl, hy1] at a1
          rw [har] at hac hal hse
          rw [hbo] at hbc hal hse hpk hbb
          obtain ⟨A, hA⟩ : ∃ A, p1 * ar = A := ⟨_, rfl⟩
          obtain ⟨B, hB⟩ : ∃ B, p2 * bo = B := ⟨_, rfl⟩
          rw [hA, hB] at hse
          have hAB : A ≤ B := by rw [← hA, ← hB]; exact Nat.mul_le_mul hp1 hal.2.1
          have hBP : B ≤ prodN m (k + 1) := by rw [← hB, hpk]; exact Nat.mul_le_mul hp2 (Nat.le_refl _)
          have hA1 : 1 ≤ A := by rw [← hA]; exact Nat.mul_pos hp0 hal.1
          have hm1 : IntKind.i64.wrap ((p1 : Int) * x) = (A : Int) := by rw [hac, ← Int.natCast_mul, hA]; exact wrap_mid _ (by omega) (by omega)
          have hm2 : IntKind.i64.wrap (y0 + y1) = (bo : Int) := by rw [hbc]; exact wrap_mid _ (by omega) (by omega)
          have hm3 : IntKind.i64.wrap ((p2 : Int) * (bo : Int)) = (B : Int) := by rw [← Int.natCast_mul, hB]; exact wrap_mid _ (by omega) (by omega)
          have hm4 : IntKind.i64.wrap (1 - (e : Int)) = (f : Int) := by rw [wrap_mid _ (by omega) (by omega)]; omega
          obtain ⟨q1, q2⟩ := cut_nat A B
          rw [← hse] at q1 q2
          have CC := Lib.hid (fun w1 => l2Cut_any (A : Int) (B : Int) w1 (by omega) (by omega) (by omega) (by omega))
          rw [q1, q2] at CC
          have sb1 := s2.le
          have sb2 := Nat.le_of_dvd (by omega) s2.dvd
          obtain ⟨h, hh⟩ : ∃ h, hvM m t = h := ⟨_, rfl⟩
          rw [hh] at hls e2 hen
          simp only [hh] at hrs
          obtain ⟨P, hP⟩ : ∃ P, shE m t = P := ⟨_, rfl⟩
          rw [hP] at CC sb1 sb2 hls hrs
          obtain ⟨F, hF⟩ : ∃ F, shR m t = F := ⟨_, rfl⟩
          rw [hF] at HCe hrs
          have HRS := Lib.hid hrs
          have HLS := Lib.hid hls
          have HWX := Lib.hid HLe.out.size
          have hf2 : (f : Int) < 2 := by omega
          have hgx : g < wx.heap.size := by have := LX.size; omega
          have hvx : V.heap.size < wx.heap.size := HCe.out.lt
          have hwx0 : w.heap.size < wx.heap.size := by have := HVS.out; omega
          have E2 := Lib.hid e2
          have U1 := Lib.hid u1
          have HEN := Lib.hid hen
          clear hse q1 q2 hbb hls hrs hh hP hF hx hy0 hy1 har hbo hA hB hac hbc hal hpk hpb hpb1 hp0 hp1 hp2 hp1e hp2e s1 s2 hot ht hf e2 u1 LX hen
          go_wp2
          obtain ⟨wz, hwz⟩ : ∃ wz, wx.alloc (.cells #[.int .i64 0, .int .i64 0] 75) = wz := ⟨_, rfl⟩
          have lz : Below wx.heap.size wx wz := by rw [← hwz]; exact (Below.refl _ _).alloc (Nat.le_refl _) _
          have hz : wz.heap.size = wx.heap.size + 1 := by rw [← hwz]; simp
          have u0' : wz.cell? ⟨w.heap.size, 0, none⟩ = some (.slice (some ⟨g, off, none⟩) n c) := (lz.cell (p := ⟨w.heap.size, 0, none⟩) hwx0).trans u0
          have e1' : wz.cell? ⟨g, off + k * 2 + f, none⟩ = some (.int .i64 x) := (lz.cell (p := ⟨g, off + k * 2 + f, none⟩) hgx).trans e1
          have a0' : wz.cell? ⟨g, off + k * 2, none⟩ = some (.int .i64 y0) := (lz.cell (p := ⟨g, off + k * 2, none⟩) hgx).trans a0
          have a1' : wz.cell? ⟨g, off + k * 2 + 1, none⟩ = some (.int .i64 y1) := (lz.cell (p := ⟨g, off + k * 2 + 1, none⟩) hgx).trans a1
          have c0' : wz.cell? ⟨V.heap.size, k * 2, none⟩ = some (.int .i64 (p1 : Int)) := (lz.cell (p := ⟨V.heap.size, k * 2, none⟩) hvx).trans c0
          have c1' : wz.cell? ⟨V.heap.size, k * 2 + 1, none⟩ = some (.int .i64 (p2 : Int)) := (lz.cell (p := ⟨V.heap.size, k * 2 + 1, none⟩) hvx).trans c1
          have x0 : wz.cell? ⟨wx.heap.size, 0, none⟩ = some (.int .i64 0) := by rw [← hwz, World.cell?_alloc_at _ _ _ _ rfl]; rfl
          have x1 : wz.cell? ⟨wx.heap.size, 1, none⟩ = some (.int .i64 0) := by rw [← hwz, World.cell?_alloc_at _ _ _ _ rfl]; rfl
          have xf : ∀ j, wz.frozen? ⟨wx.heap.size, j, none⟩ = false := fun j => by rw [← hwz]; exact World.frozen?_alloc_at _ _ _ _ rfl
          have HLZ := Lib.hid lz
          subst hwz
          clear lz
          have d0 : w.heap.size ≠ wx.heap.size := by omega
          have d1 : g ≠ wx.heap.size := by omega
          have d2 : V.heap.size ≠ wx.heap.size := by omega
          go_region_held3 (fun w' => w'.cell? ⟨w.heap.size, 0, none⟩ = some (.slice (some ⟨g, off, none⟩) n c) ∧ w'.cell? ⟨g, off + k * 2 + f, none⟩ = some (.int .i64 x) ∧ w'.cell? ⟨g, off + k * 2, none⟩ = some (.int .i64 y0) ∧ w'.cell? ⟨g, off + k * 2 + 1, none⟩ = some (.int .i64 y1) ∧ w'.cell? ⟨V.heap.size, k * 2, none⟩ = some (.int .i64 (p1 : Int)) ∧ w'.cell? ⟨V.heap.size, k * 2 + 1, none⟩ = some (.int .i64 (p2 : Int)))
            (first
              | exact ⟨u0', e1', a0', a1', c0', c1'⟩
              | exact ⟨u0, e1, a0, a1, c0, c1⟩
              | exact ⟨r0, r1, r2, r3, r4, r5⟩
              | exact ⟨(cell_far2 v5 _ _ _ _ _ _ d0).trans r0, (cell_far2 v5 _ _ _ _ _ _ d1).trans r1, (cell_far2 v5 _ _ _ _ _ _ d1).trans r2, (cell_far2 v5 _ _ _ _ _ _ d1).trans r3, (cell_far2 v5 _ _ _ _ _ _ d2).trans r4, (cell_far2 v5 _ _ _ _ _ _ d2).trans r5⟩
              | exact ⟨ra0 _, ra1 _, ra2 _, ra3 _, ra4 _, ra5 _⟩
              | exact ⟨(cell_far2 _ _ _ _ _ _ _ b0).trans (ra0 _), (cell_far2 _ _ _ _ _ _ _ b1).trans (ra1 _), (cell_far2 _ _ _ _ _ _ _ b1).trans (ra2 _), (cell_far2 _ _ _ _ _ _ _ b1).trans (ra3 _), (cell_far2 _ _ _ _ _ _ _ b2).trans (ra4 _), (cell_far2 _ _ _ _ _ _ _ b2).trans (ra5 _)⟩
              | go_keep)
            (first
              | (go_at_call 149; refine (CC.out _).mono ?_; rintro e5 v5 ⟨rfl, l5⟩
                 have r0 : v5.cell? ⟨w.heap.size, 0, none⟩ = some (.slice (some ⟨g, off, none⟩) n c) := (l5.cell (p := ⟨w.heap.size, 0, none⟩) (by simp; omega)).trans (by first | exact u0' | exact u0)
                 have r1 : v5.cell? ⟨g, off + k * 2 + f, none⟩ = some (.int .i64 x) := (l5.cell (p := ⟨g, off + k * 2 + f, none⟩) (by simp; omega)).trans (by first | exact e1' | exact e1)
                 have r2 : v5.cell? ⟨g, off + k * 2, none⟩ = some (.int .i64 y0) := (l5.cell (p := ⟨g, off + k * 2, none⟩) (by simp; omega)).trans (by first | exact a0' | exact a0)
                 have r3 : v5.cell? ⟨g, off + k * 2 + 1, none⟩ = some (.int .i64 y1) := (l5.cell (p := ⟨g, off + k * 2 + 1, none⟩) (by simp; omega)).trans (by first | exact a1' | exact a1)
                 have r4 : v5.cell? ⟨V.heap.size, k * 2, none⟩ = some (.int .i64 (p1 : Int)) := (l5.cell (p := ⟨V.heap.size, k * 2, none⟩) (by simp; omega)).trans (by first | exact c0' | exact c0)
                 have r5 : v5.cell? ⟨V.heap.size, k * 2 + 1, none⟩ = some (.int .i64 (p2 : Int)) := (l5.cell (p := ⟨V.heap.size, k * 2 + 1, none⟩) (by simp; omega)).trans (by first | exact c1' | exact c1)
                 have hv5 : wx.heap.size ≤ v5.heap.size := by have := l5.size; simp at this; omega
                 have b0 : w.heap.size ≠ v5.heap.size := by omega
                 have b1 : g ≠ v5.heap.size := by omega
                 have b2 : V.heap.size ≠ v5.heap.size := by omega
                 have ra0 : ∀ o, (v5.alloc o).cell? ⟨w.heap.size, 0, none⟩ = some (.slice (some ⟨g, off, none⟩) n c) := fun o => (World.cell?_of_block (a := ⟨w.heap.size, 0, none⟩) (Below.heap_alloc _ _ _ (show w.heap.size < v5.heap.size by omega))).trans r0
                 have ra1 : ∀ o, (v5.alloc o).cell? ⟨g, off + k * 2 + f, none⟩ = some (.int .i64 x) := fun o => (World.cell?_of_block (a := ⟨g, off + k * 2 + f, none⟩) (Below.heap_alloc _ _ _ (show g < v5.heap.size by omega))).trans r1
                 have ra2 : ∀ o, (v5.alloc o).cell? ⟨g, off + k * 2, none⟩ = some (.int .i64 y0) := fun o => (World.cell?_of_block (a := ⟨g, off + k * 2, none⟩) (Below.heap_alloc _ _ _ (show g < v5.heap.size by omega))).trans r2
                 have ra3 : ∀ o, (v5.alloc o).cell? ⟨g, off + k * 2 + 1, none⟩ = some (.int .i64 y1) := fun o => (World.cell?_of_block (a := ⟨g, off + k * 2 + 1, none⟩) (Below.heap_alloc _ _ _ (show g < v5.heap.size by omega))).trans r3
                 have ra4 : ∀ o, (v5.alloc o).cell? ⟨V.heap.size, k * 2, none⟩ = some (.int .i64 (p1 : Int)) := fun o => (World.cell?_of_block (a := ⟨V.heap.size, k * 2, none⟩) (Below.heap_alloc _ _ _ (show V.heap.size < v5.heap.size by omega))).trans r4
                 have ra5 : ∀ o, (v5.alloc o).cell? ⟨V.heap.size, k * 2 + 1, none⟩ = some (.int .i64 (p2 : Int)) := fun o => (World.cell?_of_block (a := ⟨V.heap.size, k * 2 + 1, none⟩) (Below.heap_alloc _ _ _ (show V.heap.size < v5.heap.size by omega))).trans r5
                 try (have y5 : v5.cell? ⟨wx.heap.size, 0, none⟩ = some (.int .i64 0) := (l5.cell (p := ⟨wx.heap.size, 0, none⟩) (by simp)).trans x0)
                 try (have y6 : v5.cell? ⟨wx.heap.size, 1, none⟩ = some (.int .i64 0) := (l5.cell (p := ⟨wx.heap.size, 1, none⟩) (by simp)).trans x1)
                 try (have y7 : v5.frozen? ⟨wx.heap.size, 0, none⟩ = false := (l5.frozen (p := ⟨wx.heap.size, 0, none⟩) (by simp)).trans (xf 0))
                 try (have y8 : v5.frozen? ⟨wx.heap.size, 1, none⟩ = false := (l5.frozen (p := ⟨wx.heap.size, 1, none⟩) (by simp)).trans (xf 1))))
          focus
            have LB : Below wx.heap.size wx (v5.alloc (.cells #[.int .i64 (P.1 : Int), .int .i64 (P.2 : Int)] 75)) := ((drew_below wx).trans l5).alloc hv5 _
            have k0 : (v5.alloc (.cells #[.int .i64 (P.1 : Int), .int .i64 (P.2 : Int)] 75)).cell? ⟨v5.heap.size, 0, none⟩ = some (.int .i64 (P.1 : Int)) := by rw [World.cell?_alloc_at _ _ _ _ rfl]; rfl
            have k1 : (v5.alloc (.cells #[.int .i64 (P.1 : Int), .int .i64 (P.2 : Int)] 75)).cell? ⟨v5.heap.size, 1, none⟩ = some (.int .i64 (P.2 : Int)) := by rw [World.cell?_alloc_at _ _ _ _ rfl]; rfl
            have kz : v5.heap.size < (v5.alloc (.cells #[.int .i64 (P.1 : Int), .int .i64 (P.2 : Int)] 75)).heap.size := by simp
            clear r0 r1 r2 r3 r4 r5 ra0 ra1 ra2 ra3 ra4 ra5 l5 b0 b1 b2
            rename_i hHeld
            clear hHeld
            generalize v5.alloc (.cells #[.int .i64 (P.1 : Int), .int .i64 (P.2 : Int)] 75) = w3 at LB k0 k1 kz ⊢
            generalize v5.heap.size = bx at k0 k1 kz hv5 ⊢
          rotate_left
          focus
            have LB : Below wx.heap.size wx ((v5.setCell ⟨wx.heap.size, 0, none⟩ (.int .i64 (P.1 : Int))).setCell ⟨wx.heap.size, 1, none⟩ (.int .i64 (P.2 : Int))) := (((show Below wx.heap.size wx (wx.alloc (.cells #[.int .i64 0, .int .i64 0] 75)).drew from ((Below.refl _ _).alloc (Nat.le_refl _) _).drew).trans (l5.mono (by simp))).setCell (p := ⟨wx.heap.size, 0, none⟩) (Nat.le_refl _) _).setCell (p := ⟨wx.heap.size, 1, none⟩) (Nat.le_refl _) _
            have k0 := (two_set v5 wx.heap.size 0 (.int .i64 (P.1 : Int)) (.int .i64 (P.2 : Int)) y5 y6).1
            have k1 := (two_set v5 wx.heap.size 0 (.int .i64 (P.1 : Int)) (.int .i64 (P.2 : Int)) y5 y6).2.1
            rw [Nat.zero_add] at k0 k1
            have kz : wx.heap.size < ((v5.setCell ⟨wx.heap.size, 0, none⟩ (.int .i64 (P.1 : Int))).setCell ⟨wx.heap.size, 1, none⟩ (.int .i64 (P.2 : Int))).heap.size := by have := l5.size; simp at this ⊢; omega
            clear r0 r1 r2 r3 r4 r5 ra0 ra1 ra2 ra3 ra4 ra5 l5 b0 b1 b2 y5 y6 y7 y8
            rename_i hHeld
            clear hHeld hv5
            have hv5 : wx.heap.size ≤ wx.heap.size := Nat.le_refl _
            generalize (v5.setCell ⟨wx.heap.size, 0, none⟩ (.int .i64 (P.1 : Int))).setCell ⟨wx.heap.size, 1, none⟩ (.int .i64 (P.2 : Int)) = w3 at LB k0 k1 kz ⊢
            revert hv5 k0 k1 kz
            generalize hbx : (wx.heap.size : Nat) = bx
            intro hv5 k0 k1 kz
          all_goals
            have HL3 := Lib.hid (lo_on HLe.out LB)
            have HR3 := Lib.hid (show OwnS w3 (V.heap.size + 1) u4 ((endT (rodF m) t).map (fun t => shZ (shE m t))) from ownsRow_lo HRe.out LB)
            have HC3 := Lib.hid (HCe.out.lo LB)
            clear HRe HCe HLe LB u0 u0' e1 e1' a0 a0' a1 a1' c0 c0' c1 c1' x0 x1 xf
            have hw3 : wx.heap.size ≤ w3.heap.size := by omega
            obtain ⟨wy, hwy⟩ : ∃ wy, w3.alloc (.cells #[.int .i64 (P.1 : Int), .int .i64 (P.2 : Int)] 101) = wy := ⟨_, rfl⟩
            have ly : Below w3.heap.size w3 wy := by rw [← hwy]; exact (Below.refl _ _).alloc (Nat.le_refl _) _
            have sy : wy.heap.size = w3.heap.size + 1 := by rw [← hwy]; simp
            have s0 : wy.cell? ⟨w3.heap.size, 0, none⟩ = some (.int .i64 (P.1 : Int)) := by rw [← hwy, World.cell?_alloc_at _ _ _ _ rfl]; rfl
            have s1 : wy.cell? ⟨w3.heap.size, 1, none⟩ = some (.int .i64 (P.2 : Int)) := by rw [← hwy, World.cell?_alloc_at _ _ _ _ rfl]; rfl
            have HLy := Lib.hid (lo_on HL3.out ly)
            have HRy := Lib.hid (show OwnS wy (V.heap.size + 1) u4 ((endT (rodF m) t).map (fun t => shZ (shE m t))) from ownsRow_lo HR3.out ly)
            have HCy := Lib.hid (HC3.out.lo ly)
            have LXy := LV.out.trans (HLy.out.mono LV.out.size)
            obtain ⟨_, _, u1⟩ := BV.out.lo HLy.out
            have e2 : wy.cell? ⟨g', off' + k * 2 + e, none⟩ = some (.int .i64 h) := (LXy.cell (p := ⟨g', off' + k * 2 + e, none⟩) hgg').trans E2.out
            have hen := HEN.out
            have hnx := HT.out
            have hlen := endT_len (rodF m) t
            clear HL3 HR3 HC3 ly LXy
            by_cases hneg : h < 0
            · obtain ⟨q, hq⟩ : ∃ q, (-h).toNat = q := ⟨_, rfl⟩
              have hml : m.am.length = n := HMN.out
              have hqw : IntKind.i64.wrap (-h) = (q : Int) := (wrap_mid (-h) (by omega) (by omega)).trans (by omega)
              have hqn : q < n := by omega
              have hqn' : (q : Int) < (n : Int) := by omega
              have hq0 : (0 : Int) ≤ (q : Int) := by omega
              have cq0 := HCy.out.c0 q hqn
              have cq1 := HCy.out.c1 q hqn
              have fq0 := HCy.out.fz (q * 2)
              have fq1 := HCy.out.fz (q * 2 + 1)
              have HC' := Lib.hid ((HCy.out.set hqn P).congr (f' := shR m (t + 1)) (fun j _ => by
                rw [HRS.out j, hq]
                by_cases e : j = q
                · rw [if_pos e, if_pos ⟨hneg, e.symm⟩]
                · rw [if_neg e, if_neg (fun h => e h.2.symm)]))
              have HR' := Lib.hid (show OwnS ((wy.setCell ⟨V.heap.size, q * 2, none⟩ (.int .i64 (P.1 : Int))).setCell ⟨V.heap.size, q * 2 + 1, none⟩ (.int .i64 (P.2 : Int))) (V.heap.size + 1) u4 ((endT (rodF m) (t + 1)).map (fun t => shZ (shE m t))) by
                rw [HLS.out, if_pos hneg]
                exact owns_set (owns_set HRy.out _ _ _ (Nat.lt_succ_self _)) _ _ _ (Nat.lt_succ_self _))
              have HL' := Lib.hid ((HLy.out.setCell (p := ⟨V.heap.size, q * 2, none⟩) (Nat.le_refl _) (.int .i64 (P.1 : Int))).setCell (p := ⟨V.heap.size, q * 2 + 1, none⟩) (Nat.le_refl _) (.int .i64 (P.2 : Int)))
              generalize (F q).1 = z1 at cq0
              generalize (F q).2 = z2 at cq1
              clear hq hml HLy HRy HCy
              go_wp2_with fail
              go_region_held3 (fun w' => w'.cell? ⟨w.heap.size, 1, none⟩ = some (.slice (some ⟨g', off', none⟩) n c') ∧ w'.cell? ⟨g', off' + k * 2 + e, none⟩ = some (.int .i64 h) ∧ w'.cell? ⟨w3.heap.size, 0, none⟩ = some (.int .i64 (P.1 : Int)) ∧ w'.cell? ⟨w3.heap.size, 1, none⟩ = some (.int .i64 (P.2 : Int)))
                (first
                  | exact ⟨u1, e2, s0, s1⟩
                  | exact ⟨(cell_far2 _ _ _ _ _ _ _ (show w.heap.size ≠ V.heap.size by omega)).trans u1, (cell_far2 _ _ _ _ _ _ _ (show g' ≠ V.heap.size by omega)).trans e2, (cell_far2 _ _ _ _ _ _ _ (show w3.heap.size ≠ V.heap.size by omega)).trans s0, (cell_far2 _ _ _ _ _ _ _ (show w3.heap.size ≠ V.heap.size by omega)).trans s1⟩
                  | go_keep)
                (first | (fail))
              go_wp2
              go_roundw
              case rel => exact ⟨e + 1, by omega, by go_num, by rw [show 2 * k + (e + 1) = t + 1 by omega]; exact Lib.hid (ownsRow_lo HR'.out (drew_below _)), by rw [show 2 * k + (e + 1) = t + 1 by omega]; exact Lib.hid (HC'.out.lo (drew_below _)), Lib.hid (lo_on HL'.out (drew_below _))⟩
              case measure => simp [intOf]; omega
            · have hpos : 1 ≤ h := by omega
              have hown := HRy.out
              unfold OwnS at hown
              rw [List.length_map] at hown
              obtain ⟨X, hX⟩ : ∃ X, (endT (rodF m) t).map (fun t => shZ (shE m t)) = X := ⟨_, rfl⟩
              have HXL := Lib.hid (show X.length = (endT (rodF m) t).length by rw [← hX, List.length_map])
              have hls := HLS.out
              rw [if_neg hneg, hX] at hls
              have HXS := Lib.hid hls
              rw [hX] at hown
              obtain ⟨L, hL⟩ : ∃ L, (endT (rodF m) t).length = L := ⟨_, rfl⟩
              rw [hL] at hown HXL hlen
              have HCn := Lib.hid (HCy.out.congr (f' := shR m (t + 1)) (fun j _ => by rw [HRS.out j, if_neg (fun h => hneg h.1)]))
              have hag : ∀ q, u4.ownBlock = some q → V.heap.size + 1 ≤ q := fun q hq => (hown.lt q hq).1
              have hyb := HLy.out.size
              have hvy : V.heap.size + 1 ≤ wy.heap.size := by omega
              have SY := Lib.hid sy
              clear hX hL hls HRy HCy sy
              go_wp2_with (at_builtin; refine wpList_append_own _ rfl _ _ 97 rfl (V.heap.size + 1) 101 i0 (.agg #[.int .i64 0, .int .i64 0]) 2 16 Try.underlying97 hi hz0 hz1 hz2 rfl (by decide) _ _ _ rfl (hown.alloc _) ⟨wy.heap.size, 0, none⟩ 1 1 [.int .i64 (P.1 : Int), .int .i64 (P.2 : Int)] rfl rfl (World.news_of_block (cs := #[.int .i64 (P.1 : Int), .int .i64 (P.2 : Int)]) (t := 101) (fr := (0, 0)) (heap_alloc_new wy _)) (by simp [Value.oneCell']) (by unfold maxLen; omega) (by omega) (by simp; omega) ?_; intro v' w5 hown' hgrow5 hnil5)
              have HR' := Lib.hid (show OwnS w5 (V.heap.size + 1) v' ((endT (rodF m) (t + 1)).map (fun t => shZ (shE m t))) by rw [HXS.out]; exact ownS_snoc hown' HXL.out)
              have HL' := Lib.hid (show Below V.heap.size V w5 from (HLy.out.alloc hyb _).grown hgrow5 (by simp; omega) (fun q hq => by have := hag q hq; omega))
              have HC' := Lib.hid (show ShC w5 V.heap.size n (shR m (t + 1)) from (HCn.out.lo ((Below.refl _ _).alloc (Nat.le_refl _) (.cells #[.int .i64 (P.1 : Int), .int .i64 (P.2 : Int)] 101))).keep hgrow5.size (hgrow5.block _ (by simp; omega) (fun hh => by have := hag _ hh.symm; omega)))
              clear hown' hgrow5 hnil5 hown hag
              go_wp2
              go_roundw
              case rel => exact ⟨e + 1, by omega, by go_num, by rw [show 2 * k + (e + 1) = t + 1 by omega]; exact HR', by rw [show 2 * k + (e + 1) = t + 1 by omega]; exact HC', HL'⟩
              case measure => simp [intOf]; omega
        · obtain rfl : e = 2 := by omega
          go_wp2
          go_roundw
          case rel => exact ⟨k + 1, by omega, by go_num, by rw [show 2 * (k + 1) = 2 * k + 2 by omega]; exact HRe, by rw [show 2 * (k + 1) = 2 * k + 2 by omega]; exact HCe, HLe⟩
          case measure => simp [intOf]; omega
    · obtain rfl : k = n := by omega
      have hge : ¬ (k : Int) < (k : Int) := by omega
      have hvs := HVS.out
      have LF := Lib.hid (LV.out.trans (HL.out.mono LV.out.size))
      have HRF := Lib.hid (show OwnS wq w.heap.size u4 ((lfT m).map (fun t => shZ (shE m t))) by
        rw [HLF.out]
        exact ⟨HR.out.1, HR.out.2.imp id (fun ⟨g', cap, cur, a1, a2, a3⟩ => ⟨g', cap, cur, a1, by omega, a3⟩)⟩)
      go_wp2
      go_ret
      exact ⟨_, rfl, HRF.out, LF.out⟩
end Go.Proofs.Ytnadchgekfljkaa
