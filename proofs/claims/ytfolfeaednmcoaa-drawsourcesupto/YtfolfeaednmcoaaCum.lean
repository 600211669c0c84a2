/- Place, Cumulate, Pick. -/
import Derived.Test.YtfolfeaednmcoaaFls
namespace Go.Proofs.Ytfolfeaednmcoaa
open Go.RowKit Ieee
set_option linter.unusedVariables false
set_option linter.unusedSimpArgs false
/-- the first place whose real is above x -/
def up (x : Nat) (z : Nat) : Bool := double.order z x == some .gt
def PlaceIs (zs : List Nat) (x k : Nat) : Prop := k < zs.length ∧ up x (zs.getD k 0) = true ∧ ∀ j, j < k → up x (zs.getD j 0) = false
def NoPlace (zs : List Nat) (x : Nat) : Prop := ∀ j, j < zs.length → up x (zs.getD j 0) = false
theorem wp_scope_once {P : Program} {a : Act} {w : World} {Q : Exit → Act → World → Prop} {c rest : Code} (l : Nat) (hf : findLabel c l = some rest)
    (h : c.wp P (Exit.jump l (fun a' w' => rest.wp P (Exit.noGoto Q) a' w') Q) a w) : (Code.scope c).wp P Q a w :=
  wp_scope_jumps l _ (fun _ _ => 0) hf h (fun a w hJ => Code.wp_mono (fun e a' w' hq => by
    cases e with
    | goto l' => exact hq.elim
    | _ => exact hq) hJ)
theorem jump_ret {l : Nat} {J : Act → World → Prop} {Q : Exit → Act → World → Prop} {a : Act} {w : World} (h : Q .ret a w) : Exit.jump l J Q .ret a w := h
theorem place_any (a : Option Addr) (n cap : Nat) (zs : List Nat) (x : Nat) (w : World) (hF : Fl w a n zs) :
    Calls Try.prog 19 #[.slice a n cap, .float .f64 x] w fun e w' => w' = w ∧ ((∃ k : Nat, PlaceIs zs x k ∧ e = .returned (.tuple #[.int .i64 k, .bool true])) ∨ (NoPlace zs x ∧ e = .returned (.tuple #[.int .i64 0, .bool false]))) := by
  have hl := hF.len
  have hs := hF.small
  go_enter Try.func19, Try.ntmps19
  go_wp2
  refine wp_scope_once 0 rfl ?_
  go_wp2
  go_step3
  go_wp2
  go_loopw [6, 7, 12] (fun p f t wr => ∃ k : Nat, k ≤ n ∧ p = .int .i64 0 ∧ f = .bool false ∧ t = .int .i64 k ∧ (∀ j, j < k → up x (zs.getD j 0) = false) ∧ w = wr) (fun p f t _ => n - (intOf t).toNat)
  case atStart => exact ⟨0, by omega, rfl, rfl, rfl, (fun j h => by omega), rfl⟩
  case round =>
    obtain ⟨k, hk, rfl, rfl, rfl, hU, rfl⟩ := hrel
    by_cases hlt : k < n
    · obtain ⟨b, o, rfl, hc⟩ := hF.cap k hlt
      have c1 := hc k hlt
      have k0 : (0 : Int) ≤ k := by omega
      have k1 : (k : Int) < n := by omega
      obtain ⟨z, hz⟩ : ∃ z, zs.getD k 0 = z := ⟨_, rfl⟩
      have HZ : Hid (zs.getD k 0 = z) := hz
      have HU : Hid (∀ j, j < k → up x (zs.getD j 0) = false) := hU
      have HN : Hid (zs.length = n) := hl
      rw [hz] at c1
      clear hz hU hF hl hc
      cases hd : up x z with
      | true =>
        have hg : (FloatKind.f64.format.order z x == some .gt) = true := hd
        have HD : Hid (up x z = true) := hd
        clear hd
        go_wp2_with fail
        refine jump_ret ?_
        go_ret2
        exact ⟨rfl, .inl ⟨k, ⟨by have := HN.out; omega, by rw [HZ.out]; exact HD.out, HU.out⟩, rfl⟩⟩
      | false =>
        have hg : (FloatKind.f64.format.order z x == some .gt) = false := hd
        have HD : Hid (up x z = false) := hd
        clear hd
        go_wp2_with fail
        go_roundw
        case rel => exact ⟨k + 1, by omega, rfl, rfl, by go_num, (fun j hj => by
          by_cases e : j = k
          · rw [e, HZ.out]; exact HD.out
          · exact HU.out j (by omega)), trivial⟩
        case measure => simp [intOf]; omega
    · obtain rfl : k = n := by omega
      have HU : Hid (∀ j, j < k → up x (zs.getD j 0) = false) := hU
      have HN : Hid (zs.length = k) := hl
      clear hU hl hF
      go_wp2_with fail
      refine jump_ret ?_
      go_ret2
      exact ⟨rfl, .inr ⟨by intro j hj; exact HU.out j (by have := HN.out; omega), rfl⟩⟩
/-- the sums of weights -/
def cumAt (zs : List Nat) (l i : Nat) : Nat := if i < l then tot (zs.take (i + 1)) else ONE
/-- what Cumulate leaves -/
def Cum (w w' : World) (zs : List Nat) (l : Nat) (L : List Nat) : Prop := L.length = zs.length ∧ (∀ i, i < zs.length → L.getD i 0 = cumAt zs l i) ∧ w'.heap[w.heap.size]? = some (.cells (fvals L).toArray 29 (0, 0)) ∧ Below w.heap.size w w'
theorem own_heap {w : World} {base g n cap : Nat} {e : TypeId} {xs : List Value} (h : w.ownsRow base e 1 (.slice (some ⟨g, 0, none⟩) n cap) n xs) : ∃ cur, w.heap[g]? = some (.cells cur e (0, 0)) ∧ cur.size = cap ∧ cur.toList.take n = xs ∧ n ≤ cap := by
  rcases h.2 with ⟨h, _⟩ | ⟨g', cap', cur, hv, hb, hg, h1, h2, h3, h4⟩
  · cases h
  · cases hv; exact ⟨cur, hg, by simpa using h3, by simpa using h4, h1⟩
theorem getD_set (L : List Nat) (k i v : Nat) (hk : k < L.length) : (L.set k v).getD i 0 = if i = k then v else L.getD i 0 := by
  by_cases h : i = k
  · subst h; simp [List.getD, hk]
  · rw [if_neg h]; simp [List.getD, List.getElem?_set, Ne.symm h]
theorem st_float (w : World) (a : Addr) (b : Nat) (m : Mode) : (store a (.float .f64 b) m).run Try.prog w = stored Try.prog w a (.float .f64 b) m := run_store Try.prog w a _ m rfl
theorem made_zeros {w w1 : World} {n : Nat} (hown : w1.ownsRow w.heap.size 29 1 (.slice (some ⟨w.heap.size, 0, none⟩) n n) n (madeCells (Value.float .f64 0).cells (n * 1)).toList) : ∃ L : List Nat, L.length = n ∧ w1.heap[w.heap.size]? = some (.cells (fvals L).toArray 29 (0, 0)) := by
  obtain ⟨cur, h1, h2, h3, _⟩ := own_heap hown
  refine ⟨List.replicate n 0, by simp, ?_⟩
  rw [h1]
  have e : cur.toList = fvals (List.replicate n 0) := by
    rw [List.take_of_length_le (by simp [h2])] at h3
    rw [h3]
    have e1 : (Value.float .f64 0).cells = #[.float .f64 0] := rfl
    rw [e1, toList_madeCells_one, Nat.mul_one]
    simp [fvals]
  rw [← e]
theorem cell_fl {w : World} {B : Nat} {L : List Nat} {t : TypeId} {fr : Nat × Nat} (hb : w.heap[B]? = some (.cells (fvals L).toArray t fr)) (j : Nat) (hj : j < L.length) : w.cell? ⟨B, j, none⟩ = some (.float .f64 (L.getD j 0)) := by
  have h1 : (fvals L).toArray.toList[j]? = some (.float .f64 (L.getD j 0)) := by simpa using fvals_get L j hj
  have := World.news_of_block hb j _ h1
  rw [Go.WideShapes.add_plain, Nat.zero_add] at this
  exact this
theorem cum_no (a : Option Addr) (n cap : Nat) (zs : List Nat) (w : World) (hF : Fl w a n zs) (hG : ¬ Good zs) :
    Calls Try.prog 15 #[.slice a n cap] w fun e w' => w' = w ∧ e = .returned (.tuple #[.slice none 0 0, .int .i64 2]) := by
  have hA := above_any a n cap zs w hF
  go_enter Try.func15, Try.ntmps15
  go_wp2_with fail
  refine hA.mono ?_
  rintro e w1 ⟨rfl, ⟨h, _⟩ | ⟨_, rfl⟩⟩
  · exact absurd h hG
  · clear hF hG hA
    go_wp2_with fail
    go_ret2
    exact ⟨rfl, rfl⟩
theorem cum_ok (a : Option Addr) (n cap : Nat) (zs : List Nat) (w : World) (hF : Fl w a n zs) (hG : Good zs) (hcap : n ≤ cap) (hc2 : cap ≤ maxLen) :
    Calls Try.prog 15 #[.slice a n cap] w fun e w' => ∃ l L, LastIs zs n l ∧ Cum w w' zs l L ∧ e = .returned (.tuple #[.slice (some ⟨w.heap.size, 0, none⟩) n n, .int .i64 0]) := by
  have hA := above_any a n cap zs w hF
  have hn0 : 0 < n := by
    have h1 := hF.len
    apply Nat.pos_of_ne_zero
    rintro rfl
    have : zs = [] := List.length_eq_zero_iff.1 h1
    subst this
    have := hG.2.1
    simp [tot] at this
  obtain ⟨b, o, rfl, hcell⟩ := hF.cap 0 hn0
  obtain ⟨i0, hi, hz0, hz1, hz2⟩ := info_parts Try.info29
  have hl := hF.len
  have hs := hF.small
  have hbB := hF.lt b o rfl hn0
  unfold maxLen at hc2
  go_enter Try.func15, Try.ntmps15
  go_wp2_with fail
  refine hA.mono ?_
  rintro e w1 ⟨rfl, ⟨_, l, hL, rfl⟩ | ⟨h, _⟩⟩
  rotate_left
  · exact absurd hG h
  have hln : l < n := by
    rcases hL with ⟨_, _, h3⟩ | ⟨h, _⟩
    · rw [← hl, List.take_length] at h3
      have := hG.2.1
      omega
    · exact h
  have HL : Hid (LastIs zs n l) := hL
  have HM : Hid (May zs zs.length) := hG.1
  have HN : Hid (zs.length = n) := hl
  have HC : Hid (∀ j, j < n → w1.cell? ⟨b, o + j, none⟩ = some (.float .f64 (zs.getD j 0))) := hcell
  have l0 : (0 : Int) ≤ l := by omega
  have l1 : (l : Int) ≤ cap := by omega
  clear hL hG hl hF hA hcell
  go_wp2_with (first
    | (at_make; refine wpList_make_full _ rfl (.tmp 19) (.tmp 19) 32 rfl w1.heap.size 29 i0 (.float .f64 0) 1 Try.underlying32 hi hz0 hz1 .i64 .i64 n n n rfl rfl rfl rfl (by rw [hz2]; omega) (by unfold maxLen; omega) (Nat.le_refl _) ?_; intro w2 hown hgrow; obtain ⟨L, HLn, HLb⟩ := made_zeros hown; have HB : Hid (Below w1.heap.size w1 w2) := (Below.refl _ w1).grown hgrow (Nat.le_refl _) (fun k h => by cases h); have HK : Hid (L.length = n ∧ w2.heap[w1.heap.size]? = some (.cells (fvals L).toArray 29 (0, 0))) := ⟨HLn, HLb⟩; clear hown hgrow HLn HLb))
  obtain ⟨B, hB⟩ : ∃ B, w1.heap.size = B := ⟨_, rfl⟩
  have HBB : Hid (w1.heap.size = B) := hB
  rw [hB] at HB HK hbB ⊢
  clear hB hcap hc2 l1
  go_loopw [7, 25] (fun s t wr => ∃ (k : Nat) (L : List Nat), k ≤ l ∧ t = .int .i64 k ∧ s = .float .f64 (tot (zs.take k)) ∧ Hid (L.length = n ∧ wr.heap[B]? = some (.cells (fvals L).toArray 29 (0, 0))) ∧ Hid (∀ i, i < k → L.getD i 0 = tot (zs.take (i + 1))) ∧ Hid (Below B w1 wr)) (fun s t _ => l - (intOf t).toNat)
  case atStart => exact ⟨0, L, by omega, rfl, rfl, HK, (fun i h => by omega : ∀ i, i < 0 → L.getD i 0 = tot (zs.take (i + 1))), HB⟩
  case round =>
    clear HK HB
    obtain ⟨k, L, hk, rfl, rfl, HK, HI, HB⟩ := hrel
    by_cases hlt : k < l
    · have c1 : wr.cell? ⟨b, o + k, none⟩ = some (.float .f64 (zs.getD k 0)) := (HB.out.cell (p := ⟨b, o + k, none⟩) hbB).trans (HC.out k (by omega))
      have c2 : wr.cell? ⟨B, k, none⟩ = some (.float .f64 (L.getD k 0)) := cell_fl HK.out.2 k (by have := HK.out.1; omega)
      have c3 : wr.frozen? ⟨B, k, none⟩ = false := by simp [World.frozen?, HK.out.2]
      have k0 : (0 : Int) ≤ k := by omega
      have k1 : (k : Int) < l := by omega
      have k2 : (k : Int) < n := by omega
      have hT := tot_le (zs.take k)
      have hS := tot_succ zs k (by have := HN.out; omega)
      have hmb := HM.out k (by have := HN.out; omega)
      obtain ⟨z, hz⟩ : ∃ z, zs.getD k 0 = z := ⟨_, rfl⟩
      obtain ⟨T, hT'⟩ : ∃ T, tot (zs.take k) = T := ⟨_, rfl⟩
      obtain ⟨T2, hT2⟩ : ∃ T2, S T z = T2 := ⟨_, rfl⟩
      obtain ⟨u, hu⟩ : ∃ u, L.getD k 0 = u := ⟨_, rfl⟩
      rw [hz] at c1 hS hmb
      rw [hT'] at hT hS
      rw [hu] at c2
      have rA : (binOp .add 29 (.float .f64 T) (.float .f64 z)).run Try.prog wr = .ok (.float .f64 (S T z)) wr := run_float_arith wr .add 29 .f64 _ _ _ (add_S hT hmb)
      rw [hT2] at rA hS
      have HS : Hid (tot (zs.take (k + 1)) = T2) := hS
      rw [hT']
      have st := st_float wr
      clear hz hT' hT2 hu hT hS hmb
      go_wp2_with fail
      go_roundw
      case rel =>
        refine ⟨k + 1, L.set k T2, by omega, by go_num, by rw [HS.out], ⟨by simpa using HK.out.1, by rw [block_setCell HK.out.2, fvals_set]⟩, (fun i hi => ?_ : ∀ i, i < k + 1 → (L.set k T2).getD i 0 = tot (zs.take (i + 1))), HB.out.trans ((But.set k _).below (by have := HB.out.size; have := HBB.out; omega) (Nat.le_refl _))⟩
        rw [getD_set _ _ _ _ (by have := HK.out.1; omega)]
        split
        · rename_i e; rw [e, HS.out]
        · exact HI.out i (by omega)
      case measure => simp [intOf]; omega
    · obtain rfl : k = l := by omega
      have HF : Hid (∀ i, i < k → L.getD i 0 = cumAt zs k i) := fun i hi => by unfold cumAt; rw [if_pos hi]; exact HI.out i hi
      clear HI hk hlt
      go_wp2_with fail
      go_loopw [10] (fun t wx => ∃ (j : Nat) (L : List Nat), k ≤ j ∧ j ≤ n ∧ t = .int .i64 j ∧ Hid (L.length = n ∧ wx.heap[B]? = some (.cells (fvals L).toArray 29 (0, 0))) ∧ Hid (∀ i, i < j → L.getD i 0 = cumAt zs k i) ∧ Hid (Below B w1 wx)) (fun t _ => n - (intOf t).toNat)
      case atStart => exact ⟨k, L, by omega, by omega, rfl, HK, HF, HB⟩
      case round =>
        clear HK HB HF
        obtain ⟨j, L, hj, hjn, rfl, HK, HF, HB⟩ := hrel
        by_cases hlt : j < n
        · have c2 := cell_fl HK.out.2 j (by have := HK.out.1; omega)
          have c3 : wr.frozen? ⟨B, j, none⟩ = false := by simp [World.frozen?, HK.out.2]
          have j0 : (0 : Int) ≤ j := by omega
          have j2 : (j : Int) < n := by omega
          obtain ⟨u, hu⟩ : ∃ u, L.getD j 0 = u := ⟨_, rfl⟩
          rw [hu] at c2
          have st := st_float
          clear hu
          go_wp2_with fail
          go_roundw
          case rel =>
            refine ⟨j + 1, L.set j ONE, by omega, by omega, by go_num, ⟨by simpa using HK.out.1, by rw [block_setCell HK.out.2, fvals_set]⟩, (fun i hi => ?_ : ∀ i, i < j + 1 → (L.set j ONE).getD i 0 = cumAt zs k i), HB.out.trans ((But.set j _).below (by have := HB.out.size; have := HBB.out; omega) (Nat.le_refl _))⟩
            rw [getD_set _ _ _ _ (by have := HK.out.1; omega)]
            split
            · rename_i e; unfold cumAt; rw [if_neg (by omega)]
            · exact HF.out i (by omega)
          case measure => simp [intOf]; omega
        · obtain rfl : j = n := by omega
          go_wp2_with fail
          go_ret2
          refine ⟨k, L, HL.out, ⟨by rw [HK.out.1, HN.out], fun i hi => HF.out i (by rw [← HN.out]; exact hi), ?_, ?_⟩, by rw [HBB.out]; rfl⟩
          · rw [HBB.out]; exact HK.out.2
          · rw [HBB.out]; exact HB.out
end Go.Proofs.Ytfolfeaednmcoaa
