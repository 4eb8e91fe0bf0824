/- The contracts of the model's groups of loads. -/
import Derived.Test.YtgjchkcjlmklbaaGp
import Derived.Test.YtgjchkcjlmklbaaSr3
import Derived.Test.YtgjchkcjlmklbaaSpec1
import Derived.Test.YtgjchkcjlmklbaaSw1
namespace Go.Proofs.Ytgjchkcjlmklbaa
open Go.RowKit
theorem mom_take_bound {row : List (Int × Int)} (h : RowF row) {p : Int} (p0 : 0 ≤ p) (p1 : p ≤ 60) (k : Nat) : -71280 ≤ momF p (row.take k) ∧ momF p (row.take k) ≤ 71280 := (rowF_bounds (rowF_take h k)).2.2.2 p p0 p1
theorem pick_take_row (row : List (Int × Int)) (xs : List Int) (k : Nat) : pickL row (xs.take k) = (pickL row xs).take k := by simp [pickL, List.map_take]
set_option maxRecDepth 100000 in
set_option maxHeartbeats 1600000 in
theorem l9Zero_any (v u : Value) (row : List (Int × Int)) (xs : List Int) (m : Nat) (p : Int) (w : World) (hr : LoadRow w v row) (hu : IntRow w u xs) (hz : RowF row) (hx : xs ∈ levF row.length m) (p0 : 0 ≤ p) (p1 : p ≤ 60) :
    Calls Try.prog 201 #[v, .int .i64 p, u] w fun e w' => e = .returned (.bool (zeroG row p xs)) ∧ Below w.heap.size w w' := by
  have hl := lev_len _ _ xs hx
  have hm := lev_short2 hx
  have h12 := hz.short
  have hpr := pickL_row hz hx
  have HB := Lib.hid (fun k => show -71280 ≤ momF p (pickL row (xs.take k)) ∧ momF p (pickL row (xs.take k)) ≤ 71280 by rw [pick_take_row]; exact mom_take_bound hpr p0 p1 k)
  have HS := Lib.hid (fun k (h : k < xs.length) => show momF p (pickL row (xs.take (k + 1))) = momF p (pickL row (xs.take k)) + (row.getD (xs.getD k 0).toNat (0, 0)).2 * ((row.getD (xs.getD k 0).toNat (0, 0)).1 - p) by rw [pickL_take row xs k h, mom_snoc])
  have HI := Lib.hid (fun k (h : k < xs.length) => lev_in _ _ xs hx (xs.getD k 0) (by rw [List.getD, List.getElem?_eq_getElem h, Option.getD_some]; exact List.getElem_mem _))
  have HE := Lib.hid (fun k (h : k < row.length) => hz.each (row.getD k (0, 0)) (by rw [List.getD, List.getElem?_eq_getElem h, Option.getD_some]; exact List.getElem_mem _))
  obtain ⟨r0, hr0⟩ : ∃ r, zeroG row p xs = r := ⟨_, rfl⟩
  have HZ := Lib.hid (show r0 = (momF p (pickL row (xs.take xs.length)) == 0) by rw [← hr0, List.take_length]; unfold zeroG; rw [Bool.eq_iff_iff]; simp)
  rw [hr0]
  clear hr0
  obtain ⟨a, c, rfl, hr⟩ := hr
  obtain ⟨au, cu, rfl, hu⟩ := hu
  have hxl : xs.length ≤ 12 := by omega
  clear hx hz hpr hl hm
  go_enter Try.func201, Try.ntmps201
  go_wp2
  go_loopw [7, 8] (fun s i wr => ∃ k d : Nat, k ≤ xs.length ∧ i = .int .i64 k ∧ s = .int .i64 (momF p (pickL row (xs.take k))) ∧ wr = w.drewN d) (fun _ i _ => xs.length - (intOf i).toNat)
  case atStart => exact ⟨0, 0, Nat.zero_le _, rfl, rfl, rfl⟩
  case round =>
    obtain ⟨k, d, hk, rfl, rfl, rfl⟩ := hrel
    by_cases hlt : k < xs.length
    · have hlt' : (k : Int) < (xs.length : Int) := by omega
      rcases hu with h | ⟨g, off, rfl, hg, hc⟩
      · subst h; simp at hlt
      have c1 : w.cell? ⟨g, off + k, none⟩ = some (.int .i64 (xs.getD k 0)) := hc k hlt
      have hs := HS.out k hlt
      have hi := HI.out k hlt
      generalize xs.getD k 0 = x at c1 hs hi
      obtain ⟨t, rfl⟩ : ∃ t : Nat, x = (t : Int) := ⟨x.toNat, by omega⟩
      rw [Int.toNat_natCast] at hs
      have ht : t < row.length := by omega
      have ht' : (t : Int) < (row.length : Int) := hi.2
      have he := HE.out t ht
      rcases hr with h | ⟨g2, off2, rfl, hg2, hc2⟩
      · subst h; simp at ht
      obtain ⟨h2, h3⟩ := hc2 t ht
      have c2 : w.cell? ⟨g2, off2 + t * 2, none⟩ = some (.int .i64 (row.getD t (0, 0)).1) := h2
      have c3 : w.cell? ⟨g2, off2 + t * 2 + 1, none⟩ = some (.int .i64 (row.getD t (0, 0)).2) := h3
      generalize row.getD t (0, 0) = y at c2 c3 hs he
      obtain ⟨q, n⟩ := y
      simp only at c2 c3 hs he
      obtain ⟨⟨e0, e1⟩, e2, e3⟩ := he
      have hb := HB.out k
      have hb2 := HB.out (k + 1)
      obtain ⟨S, hS⟩ : ∃ S, momF p (pickL row (xs.take k)) = S := ⟨_, rfl⟩
      obtain ⟨S2, hS2⟩ : ∃ S, momF p (pickL row (xs.take (k + 1))) = S := ⟨_, rfl⟩
      rw [hS] at hs hb ⊢
      rw [hS2] at hs hb2
      have HS2 := Lib.hid hS2
      obtain ⟨z, hzz⟩ : ∃ z, n * (q - p) = z := ⟨_, rfl⟩
      rw [hzz] at hs
      have t0 : -9223372036854775808 ≤ n * (q - p) := by omega
      have t1 : n * (q - p) ≤ 9223372036854775807 := by omega
      have s0 : -9223372036854775808 ≤ S + n * (q - p) := by omega
      have s1 : S + n * (q - p) ≤ 9223372036854775807 := by omega
      have HSS := Lib.hid (show S2 = S + n * (q - p) by omega)
      clear hc hc2 h2 h3 hs hS hS2 hzz hb hb2
      go_wp2
      go_quiet (fail)
      go_wp2
      go_roundw
      case rel => exact ⟨k + 1, d + nq, by omega, by go_num, by rw [HS2.out, HSS.out], by simp⟩
      case measure => simp [intOf]; omega
    · obtain rfl : k = xs.length := by omega
      have hge : ¬ (xs.length : Int) < (xs.length : Int) := by omega
      generalize momF p (pickL row (xs.take xs.length)) = M at *
      go_wp2
      go_ret
      exact ⟨by rw [HZ.out]; rfl, drw9 w d⟩
theorem tab_lit0 (w : World) (B : Nat) (hB : B ≤ w.heap.size) : OwnTab (w.alloc (.cells #[] 22)) B (.slice (some ⟨w.heap.size, 0, none⟩) 0 0) [] := ⟨[], rfl, World.ownsRow_lit w #[] 0 hB (by decide) rfl, by simp, fun j hj => by simp at hj⟩
theorem OwnTab.form {w : World} {B : Nat} {v : Value} {xss : List (List Int)} (h : OwnTab w B v xss) : ∃ g c, v = .slice (some ⟨g, 0, none⟩) xss.length c := by
  obtain ⟨us, _, hown, hnn, _⟩ := h
  rcases hown.2 with ⟨rfl, h0⟩ | ⟨g, cap, cur, rfl, _⟩
  · exact absurd rfl hnn
  · exact ⟨g, cap, rfl⟩
theorem rowF_inner {w : World} {ob : Option Nat} {B : Nat} {u : Value} {xs : List Int} (h : RowS w u xs) (ho : ∀ q, u.ownBlock = some q → B ≤ q) (hob : ∀ g, ob = some g → g < B) : InnerI w ob u xs := by
  obtain ⟨g, off, c, e, h1, h2⟩ := h
  refine ⟨g, off, c, e, h1, fun hg => ?_, h2⟩
  have a := ho g (by rw [e]; rfl)
  have b := hob g hg.symm
  omega
theorem rowS_keep {w w' : World} {B : Nat} {u : Value} {xs : List Int} (h : RowS w u xs) (ho : ∀ q, u.ownBlock = some q → B ≤ q) (hk : ∀ b, B ≤ b → b < w.heap.size → w'.heap[b]? = w.heap[b]?) (hs : w.heap.size ≤ w'.heap.size) : RowS w' u xs := by
  obtain ⟨g, off, c, e, h1, h2⟩ := h
  have h0 := ho g (by rw [e]; rfl)
  exact ⟨g, off, c, e, Nat.lt_of_lt_of_le h1 hs, fun j hj => by rw [World.cell?_of_block (a := ⟨g, off + j, none⟩) (hk g h0 h1)]; exact h2 j hj⟩
set_option maxRecDepth 100000 in
set_option maxHeartbeats 6400000 in
theorem l9Groups_any (v : Value) (row : List (Int × Int)) (p : Int) (w : World) (hr : LoadRow w v row) (hz : RowF row) (p0 : 0 ≤ p) (p1 : p ≤ 60) :
    Calls Try.prog 134 #[v, .int .i64 p] w fun e w' => ∃ u, e = .returned u ∧ OwnTab w' w.heap.size u (groupsF row p) ∧ Below w.heap.size w w' := by
  have h12 := hz.short
  obtain ⟨i1, ki, kz0, kz1, kz2⟩ := info_parts infoIntS
  have SE := Lib.hid (fun m (hm : m ≤ row.length) w1 => l7Sets_any row.length m h12 hm w1)
  have ZE := Lib.hid (fun u xs m w1 (l : Below w.heap.size w w1) hu hx => l9Zero_any v u row xs m p w1 (hr.lo l) hu hz hx p0 p1)
  have UF := Lib.hid (fun m (hm : m ≤ row.length + 1) => upto_few h12 m hm)
  have LF := Lib.hid (fun m (hm : m ≤ row.length) => lev_few h12 m hm)
  have US := Lib.hid (fun m i hi => upto_step row p m i hi)
  have UE := Lib.hid (fun m => upto_end row p m)
  have FL := Lib.hid (fun m i (hm : m ≤ row.length) => show ((uptoF row.length m).filter (zeroG row p) ++ ((levF row.length m).take i).filter (zeroG row p)).length ≤ 8192 by
    have a := List.length_filter_le (zeroG row p) (uptoF row.length m)
    have b := List.length_filter_le (zeroG row p) ((levF row.length m).take i)
    have c := upto_few h12 m (by omega)
    have d := lev_few h12 m hm
    rw [List.length_append]
    rw [List.length_take] at b
    omega)
  have T0 := Lib.hid (tab_lit0 w w.heap.size (Nat.le_refl _))
  obtain ⟨a, c, rfl, _⟩ := hr
  clear hz p0 p1
  go_enter Try.func134, Try.ntmps134
  go_wp2
  go_loopw [5, 6] (fun tv y wr => ∃ m : Nat, m ≤ row.length + 1 ∧ y = .int .i64 m ∧ Hid (OwnTab wr w.heap.size tv ((uptoF row.length m).filter (zeroG row p))) ∧ Hid (Below w.heap.size w wr)) (fun _ y _ => row.length + 1 - (intOf y).toNat)
  case atStart => exact ⟨0, Nat.zero_le _, rfl, Lib.hid T0.out, Lib.hid ((Below.refl _ _).alloc (Nat.le_refl _) _)⟩
  case round =>
    obtain ⟨m, hm, rfl, HT, HW⟩ := hrel
    obtain ⟨wq, rfl⟩ : ∃ wq : World, wq = wr := ⟨_, rfl⟩
    clear T0
    by_cases hlt : m ≤ row.length
    case neg =>
      obtain rfl : m = row.length + 1 := by omega
      have hge : ¬ ((row.length + 1 : Nat) : Int) ≤ (row.length : Int) := by omega
      go_wp2
      go_ret
      exact ⟨_, rfl, HT.out, HW.out⟩
    have hlt' : (m : Int) ≤ (row.length : Int) := by omega
    have C := Lib.hid (SE.out m hlt wq)
    have hsh := LF.out m hlt
    go_wp2_with fail
    refine C.out.mono ?_
    rintro e w1 ⟨x1, rfl, t1, l1⟩
    have L1 := Lib.hid (HW.out.trans (l1.mono HW.out.size))
    have HT1 := Lib.hid (HT.out.lo l1)
    have HBK := Lib.hid (show ∀ g, u5.ownBlock = some g → g < wq.heap.size from fun g hg => by
      obtain ⟨us, _, hown, _, _⟩ := HT.out
      exact (hown.lt g hg).2)
    obtain ⟨gs, offs, cs, rfl, hgs0, hgs, hcs⟩ := t1
    have HC := Lib.hid hcs
    have hwq := l1.size
    obtain ⟨M, hM⟩ : ∃ M, (levF row.length m).length = M := ⟨_, rfl⟩
    rw [hM] at hsh HC ⊢
    have HM := Lib.hid hM
    have USm := Lib.hid (US.out m)
    have UEm := Lib.hid (UE.out m)
    rw [hM] at USm UEm
    have MEM := Lib.hid (fun i (h : i < M) => show (levF row.length m).getD i [] ∈ levF row.length m by rw [List.getD, List.getElem?_eq_getElem (by rw [hM]; exact h), Option.getD_some]; exact List.getElem_mem _)
    clear hcs hM l1 C HT US UE
    go_wp2
    go_loopw [5, 8] (fun tv y ws => ∃ k : Nat, k ≤ M ∧ y = .int .i64 k ∧ Hid (OwnTab ws w.heap.size tv ((uptoF row.length m).filter (zeroG row p) ++ ((levF row.length m).take k).filter (zeroG row p))) ∧ Hid (∀ g, tv.ownBlock = some g → g < wq.heap.size ∨ w1.heap.size ≤ g) ∧ Hid (∀ b, wq.heap.size ≤ b → b < w1.heap.size → ws.heap[b]? = w1.heap[b]?) ∧ w1.heap.size ≤ ws.heap.size ∧ Hid (Below w.heap.size w ws)) (fun _ y _ => M - (intOf y).toNat)
    case atStart => exact ⟨0, Nat.zero_le _, rfl, Lib.hid (by rw [List.take_zero, List.filter_nil, List.append_nil]; exact HT1.out), Lib.hid (fun g hg => .inl (HBK.out g hg)), Lib.hid (fun b _ _ => rfl), Nat.le_refl _, L1⟩
    case round =>
      obtain ⟨k, hk, rfl, HO, HB, HK, hsz, HL⟩ := hrel
      obtain ⟨wx, rfl⟩ : ∃ wx : World, wx = wr := ⟨_, rfl⟩
      clear HT1 HBK
      by_cases hkl : k < M
      case neg =>
        obtain rfl : k = M := by omega
        have hge : ¬ (k : Int) < (k : Int) := by omega
        have HN := Lib.hid (show OwnTab wx w.heap.size u5 ((uptoF row.length (m + 1)).filter (zeroG row p)) by rw [← UEm.out]; exact HO.out)
        go_wp2
        go_roundw
        case rel => exact ⟨m + 1, by omega, by go_num, HN, HL⟩
        case measure => simp [intOf]; omega
      have hkl' : (k : Int) < (M : Int) := by omega
      obtain ⟨u, hu, hru, hub⟩ := HC.out k hkl
      have hmem := MEM.out k hkl
      have hst := USm.out k hkl
      have hfl := FL.out m k hlt
      obtain ⟨L, hL⟩ : ∃ L, (levF row.length m).getD k [] = L := ⟨_, rfl⟩
      rw [hL] at hru hmem hst
      obtain ⟨A, hA⟩ : ∃ A, (uptoF row.length m).filter (zeroG row p) ++ ((levF row.length m).take k).filter (zeroG row p) = A := ⟨_, rfl⟩
      rw [hA] at hst hfl HO
      have hru2 := rowS_keep (w' := wx) hru hub HK.out hsz
      have HRU := Lib.hid hru2
      have HST := Lib.hid hst
      have hcl : wx.cell? ⟨gs, offs + k, none⟩ = some u := by rw [World.cell?_of_block (a := ⟨gs, offs + k, none⟩) (HK.out gs hgs0 hgs)]; exact hu
      have Z := Lib.hid (ZE.out u L m wx HL.out hru2.row hmem)
      have hl := lev_len _ _ L hmem
      obtain ⟨gu, ou, cu, rfl, hgu, _⟩ := hru
      have hub1 := hub gu rfl
      rw [hl] at hcl Z HRU
      have HCL := Lib.hid (fun w2 (l : Below wx.heap.size wx w2) => show w2.cell? ⟨gs, offs + k, none⟩ = some (.slice (some ⟨gu, ou, none⟩) m cu) by rw [l.cell (p := ⟨gs, offs + k, none⟩) (by simp only; omega)]; exact hcl)
      obtain ⟨b, hb⟩ : ∃ b, zeroG row p L = b := ⟨_, rfl⟩
      rw [hb] at Z HST
      clear hst hmem hru2 hu hl hL hA hb hub
      go_wp2_with fail
      refine Z.out.mono ?_
      rintro e w2 ⟨rfl, l2⟩
      have LX := Lib.hid l2
      have L2 := Lib.hid (HL.out.trans (l2.mono HL.out.size))
      have s2 := l2.size
      have HO2 := Lib.hid (HO.out.lo l2)
      have HRU2 := Lib.hid (HRU.out.lo l2)
      have hcl2 := HCL.out w2 l2
      clear l2 Z HCL hcl
      cases b with
      | false =>
        have HN := Lib.hid (show OwnTab w2 w.heap.size u5 ((uptoF row.length m).filter (zeroG row p) ++ ((levF row.length m).take (k + 1)).filter (zeroG row p)) by rw [HST.out]; simpa using HO2.out)
        have HK2 := Lib.hid (show ∀ b, wq.heap.size ≤ b → b < w1.heap.size → w2.heap[b]? = w1.heap[b]? from fun b h1 h2 => (LX.out.block b (by omega)).trans (HK.out b h1 h2))
        clear hcl2
        go_wp2
        go_roundw
        case rel => exact ⟨k + 1, by omega, by go_num, HN, HB, HK2, by omega, L2⟩
        case measure => simp [intOf]; omega
      | true =>
        obtain ⟨us, hul, hown, hnn, hrr⟩ := HO2.out
        obtain ⟨N, hN⟩ : ∃ N, A.length = N := ⟨_, rfl⟩
        have HNL := Lib.hid hN
        rw [hN] at hown hfl
        have HUL := Lib.hid hul
        have HRR := Lib.hid hrr
        have HOL := Lib.hid (fun g hg => hown.lt g hg)
        have hw0 := L2.out.size
        clear hul hrr hN
        go_wp2_with (at_builtin; refine wpList_append_own_at _ rfl _ _ 47 rfl w.heap.size 22 i1 (.slice none 0 0) 1 24 Try.underlying47 ki kz0 kz1 kz2 rfl (by decide) _ _ _ rfl (hown.alloc _) ⟨w2.heap.size, 0, none⟩ 1 1 [.slice (some ⟨gu, ou, none⟩) m cu] rfl rfl (cell_one_new _ _ _) (fun x hx => by simp at hx; subst hx; rfl) (by unfold maxLen; omega) (by omega) (by simp; omega) ?_; intro v3 w3 hown3 hgrow3 hnil3 hloc3)
        have hg3 : (w2.alloc (.cells #[.slice (some ⟨gu, ou, none⟩) m cu] 22)).grownBy w3 u5.ownBlock := hgrow3
        have hlc : v3.ownBlock = u5.ownBlock ∨ v3.ownBlock = some (w2.alloc (.cells #[.slice (some ⟨gu, ou, none⟩) m cu] 22)).heap.size := hloc3
        have AL := (Below.refl w2.heap.size w2).alloc (Nat.le_refl _) (.cells #[.slice (some ⟨gu, ou, none⟩) m cu] 22)
        have HN := Lib.hid (show OwnTab w3 w.heap.size v3 ((uptoF row.length m).filter (zeroG row p) ++ ((levF row.length m).take (k + 1)).filter (zeroG row p)) by
          rw [HST.out, if_pos trivial]
          exact ownTab_snoc (w := w2.alloc (.cells #[.slice (some ⟨gu, ou, none⟩) m cu] 22)) (v := u5) (us := us) HUL.out HNL.out hown3 hg3 (fun g hg => by
            rcases hlc with e | e
            · exact .inl (by rw [← e]; exact hg)
            · rw [e] at hg; cases hg; exact .inr (Nat.le_refl _)) (fun j hj => by
            obtain ⟨u, hu, hh⟩ := HRR.out j hj
            exact ⟨u, hu, hh.lo AL⟩) (by
            obtain ⟨g, off, c, e, h1, h2⟩ := HRU2.out.lo AL
            refine ⟨g, off, c, e, h1, fun hg => ?_, h2⟩
            have eg : gu = g := by injection e with e1 e2 e3; injection e1 with e4; injection e4
            rcases HB.out g hg.symm with h | h <;> omega))
        have HB3 := Lib.hid (show ∀ g, v3.ownBlock = some g → g < wq.heap.size ∨ w1.heap.size ≤ g from fun g hg => by
          rcases hlc with e | e
          · exact HB.out g (by rw [← e]; exact hg)
          · rw [e] at hg; cases hg; exact .inr (by simp; omega))
        have HK3 := Lib.hid (show ∀ b, wq.heap.size ≤ b → b < w1.heap.size → w3.heap[b]? = w1.heap[b]? from fun b h1 h2 => by
          have hne : some b ≠ u5.ownBlock := fun h => by rcases HB.out b h.symm with h | h <;> omega
          rw [hg3.block b (by simp; omega) hne, Below.heap_alloc _ _ _ (by omega), LX.out.block b (by omega)]
          exact HK.out b h1 h2)
        have hs3 : w1.heap.size ≤ w3.heap.size := by have := hg3.size; simp at this; omega
        have HL3 := Lib.hid (show Below w.heap.size w w3 from (L2.out.alloc L2.out.size _).grown hg3 (by have := L2.out.size; simp; omega) (fun j hj => (HOL.out j hj).1))
        refine ⟨⟨k + 1, by omega, by first | rfl | go_num, HN, HB3, HK3, hs3, HL3⟩, ?_⟩
        simp [intOf]
        omega
end Go.Proofs.Ytgjchkcjlmklbaa
