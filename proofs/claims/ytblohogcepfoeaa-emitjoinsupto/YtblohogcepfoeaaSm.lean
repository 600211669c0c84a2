/-
  Lists of nodes compared: Same, and the document's.
-/
import Derived.Test.YtblohogcepfoeaaBase
import Derived.BigQuiet
namespace Go.Proofs.Ytblohogcepfoeaa
open Go.RowKit
set_option linter.unusedVariables false
set_option linter.unusedSimpArgs false
set_option maxRecDepth 100000
theorem hideS {p : Prop} (h : p) : Hid p := h
/-- numbers behind a slice's address -/
def Nums (w : World) (a : Option Addr) (cs : List Int) : Prop := (a = none ∧ cs = []) ∨ ∃ x, a = some x ∧ ∀ (j : Nat) c, cs[j]? = some c → w.cell? (x.add j) = some (.int .i64 c)
theorem Nums.at_ {w : World} {a : Option Addr} {cs : List Int} (h : Nums w a cs) {i : Nat} {k : Int} (hi : cs[i]? = some k) : ∃ x, a = some x ∧ w.cell? (x.add i) = some (.int .i64 k) := by
  rcases h with ⟨_, rfl⟩ | ⟨x, hx, hc⟩
  · simp at hi
  · exact ⟨x, hx, hc i k hi⟩
theorem Nums.below {w w' : World} {a : Option Addr} {cs : List Int} (h : Nums w a cs) (hb : Below w.heap.size w w') : Nums w' a cs := by
  rcases h with h | ⟨x, hx, hc⟩
  · exact .inl h
  · exact .inr ⟨x, hx, fun j d hd => cell_of_below hb (hc j d hd)⟩
/-- a node -/
structure Nx where
  kd : Int
  key : ByteArray
  tx : ByteArray
  quo : Bool
  ln : Int
  a : Option Addr
  n : Nat
  cap : Nat
  ks : List Int
def Nx.row (o : Nx) : List Value := [.int .i64 o.kd, .string o.key, .string o.tx, .bool o.quo, .int .i64 o.ln, .slice o.a o.n o.cap]
/-- what holds of a node in memory -/
structure Nin (W : World) (o : Nx) : Prop where
  len : o.ks.length = o.n
  nums : Nums W o.a o.ks
  big : o.n ≤ 17592186043904
theorem Nin.below {w w' : World} {o : Nx} (h : Nin w o) (hb : Below w.heap.size w w') : Nin w' o := ⟨h.len, h.nums.below hb, h.big⟩
/-- a list of nodes in memory -/
structure Ns (W : World) (a : Option Addr) (os : List Nx) : Prop where
  each : ∀ o ∈ os, Nin W o
  row : os = [] ∨ ∃ g off, a = some ⟨g, off, none⟩ ∧ ∀ (i : Nat) (o : Nx), os[i]? = some o → ∀ (j : Nat) (u : Value), o.row[j]? = some u → W.cell? ⟨g, off + i * 6 + j, none⟩ = some u
theorem Ns.below {w w' : World} {a : Option Addr} {os : List Nx} (h : Ns w a os) (hb : Below w.heap.size w w') : Ns w' a os :=
  ⟨fun o ho => (h.each o ho).below hb, by
    rcases h.row with h | ⟨g, off, h1, h2⟩
    · exact .inl h
    · exact .inr ⟨g, off, h1, fun i o hi j u hu => cell_of_below hb (h2 i o hi j u hu)⟩⟩
theorem ba_ne {a b : ByteArray} (h : ¬ a = b) : (a.toList == b.toList) = false := by
  rw [beq_eq_false_iff_ne, ByteArray.toList_eq, ByteArray.toList_eq]
  intro e
  obtain ⟨x⟩ := a
  obtain ⟨y⟩ := b
  exact h (congrArg ByteArray.mk (Array.toList_inj.1 e))
theorem ba_eq (a : ByteArray) : (a.toList == a.toList) = true := by simp
theorem eq_of_at {cs ds : List Int} (hl : cs.length = ds.length) (h : ∀ (j : Nat) c d, j < cs.length → cs[j]? = some c → ds[j]? = some d → c = d) : cs = ds := by
  apply List.ext_getElem? 
  intro j
  rcases hc : cs[j]? with _ | c
  · have := List.getElem?_eq_none_iff.1 hc
    exact (List.getElem?_eq_none_iff.2 (by omega)).symm
  · have hj := (List.getElem?_eq_some_iff.1 hc).1
    rcases hd : ds[j]? with _ | d
    · have := List.getElem?_eq_none_iff.1 hd; omega
    · rw [h j c d hj hc hd]
set_option maxHeartbeats 2000000 in
/-- slices.Equal of numbers -/
theorem equal_any (w : World) (a b : Option Addr) (n m c1 c2 : Nat) (cs ds : List Int) (hn : cs.length = n) (hm : ds.length = m) (hl : n ≤ 17592186043904) (h1 : Nums w a cs) (h2 : Nums w b ds) :
    Calls Try.prog 10 #[.slice a n c1, .slice b m c2] w fun e w' => e = .returned (.bool (decide (cs = ds))) ∧ ∃ q, w' = w.drewN q := by
  have HN := hideS hn
  have HM := hideS hm
  have H1 := hideS h1
  have H2 := hideS h2
  clear hn hm h1 h2
  go_enter Try.func10, Try.ntmps10
  by_cases hnm : n = m
  · subst hnm
    go_wp2_with fail
    go_loopw [13] (fun t wr => ∃ (i : Nat), t = .int .i64 i ∧ i ≤ n ∧ (∃ q, wr = w.drewN q) ∧ Hid (∀ (j : Nat) c d, j < i → cs[j]? = some c → ds[j]? = some d → c = d)) (fun t _ => n - (intOf t).toNat)
    case atStart => exact ⟨0, rfl, by omega, ⟨0, rfl⟩, fun j c d hj _ => by omega⟩
    case round =>
      obtain ⟨i, rfl, hi, ⟨q, rfl⟩, HF⟩ := hrel
      have i0 : (0 : Int) ≤ i := by omega
      by_cases h3 : i < n
      · have h3' : (i : Int) < n := by omega
        rcases hki : cs[i]? with _ | k
        · have := List.getElem?_eq_none_iff.1 hki; have := HN.out; omega
        rcases hkj : ds[i]? with _ | k2
        · have := List.getElem?_eq_none_iff.1 hkj; have := HM.out; omega
        obtain ⟨x, hx, hcx⟩ := H1.out.at_ hki
        obtain ⟨y, hy, hcy⟩ := H2.out.at_ hkj
        subst hx hy
        have HK := hideS hki
        have HJ := hideS hkj
        clear hki hkj
        by_cases he : k = k2
        · subst he
          go_wp2_with fail
          go_quiet (fail)
          go_wp2
          go_roundw
          case rel =>
            refine ⟨i + 1, by go_num, by omega, ⟨q + nq, rfl⟩, fun j c d hj hc hd => ?_⟩
            by_cases hji : j < i
            · exact HF.out j c d hji hc hd
            · obtain rfl : j = i := by omega
              rw [HK.out] at hc; rw [HJ.out] at hd
              cases hc; cases hd; rfl
          case measure => simp [intOf]; omega
        · have he' : decide (k = k2) = false := by simpa using he
          go_wp2_with fail
          go_quiet (fail)
          go_wp2
          go_ret
          refine ⟨?_, _, drew_two _ _ _⟩
          have hne : ¬ cs = ds := by
            rintro rfl
            have e1 := HK.out; rw [HJ.out] at e1; cases e1; exact he rfl
          simp [hne]
      · have h3' : ¬ (i : Int) < n := by omega
        go_wp2
        go_ret
        refine ⟨?_, q, rfl⟩
        have hee : cs = ds := eq_of_at (by rw [HN.out, HM.out]) (fun j c d hj hc hd => HF.out j c d (by have := HN.out; omega) hc hd)
        simp [hee]
  · have hnm' : ¬ (n : Int) = m := by omega
    go_wp2
    go_ret
    have hne : ¬ cs = ds := fun h => hnm (by rw [← HN.out, ← HM.out, h])
    exact ⟨by simp [hne], 0, rfl⟩
/-- two nodes that say the same, but for their lines and quotes -/
structure Alk (o p : Nx) : Prop where
  kd : o.kd = p.kd
  key : o.key = p.key
  tx : o.tx = p.tx
  ks : o.ks = p.ks
theorem Nums.drewN {w : World} {a : Option Addr} {cs : List Int} (h : Nums w a cs) (q : Nat) : Nums (w.drewN q) a cs := h
/-- a bool that tells whether -/
def Tells (e : Ending) (p : Prop) : Prop := ∃ b, e = .returned (.bool b) ∧ (b = true ↔ p)
theorem two_alloc (w : World) (a b : Obj) : Below w.heap.size w ((w.alloc a).alloc b) := ((Below.refl _ _).alloc (Nat.le_refl _) _).alloc (by simp) _
set_option maxHeartbeats 4000000 in
/-- isSame -/
theorem isSame_any (w : World) (o p : Nx) (h1 : Nin w o) (h2 : Nin w p) :
    Calls Try.prog 9 #[.agg o.row.toArray, .agg p.row.toArray] w fun e w' => Tells e (Alk o p) ∧ Below w.heap.size w w' := by
  have H1 := hideS h1
  have H2 := hideS h2
  clear h1 h2
  obtain ⟨kd, key, tx, quo, ln, oa, on_, ocap, ks⟩ := o
  obtain ⟨kd', key', tx', quo', ln', pa, pn, pcap, ks'⟩ := p
  show Calls Try.prog 9 #[.agg #[.int .i64 kd, .string key, .string tx, .bool quo, .int .i64 ln, .slice oa on_ ocap], .agg #[.int .i64 kd', .string key', .string tx', .bool quo', .int .i64 ln', .slice pa pn pcap]] w _
  go_enter Try.func9, Try.ntmps9
  by_cases e0 : kd = kd'
  · subst e0
    by_cases e1 : key = key'
    · subst e1
      by_cases e2 : tx = tx'
      · subst e2
        go_wp2_with fail
        refine (equal_any _ oa pa on_ pn ocap pcap ks ks' H1.out.len H2.out.len H1.out.big (H1.out.nums.below (two_alloc _ _ _)) (H2.out.nums.below (two_alloc _ _ _))).mono ?_
        rintro e w1 ⟨rfl, q, rfl⟩
        go_wp2
        go_ret
        refine ⟨⟨_, rfl, ?_⟩, below_drewN (two_alloc _ _ _) _⟩
        simp
        exact ⟨fun h => ⟨rfl, rfl, rfl, h⟩, fun h => h.ks⟩
      · have e2' := ba_ne e2
        go_wp2
        go_ret
        refine ⟨⟨_, rfl, ?_⟩, two_alloc _ _ _⟩
        simp; exact fun h => e2 h.tx
    · have e1' := ba_ne e1
      go_wp2
      go_ret
      refine ⟨⟨_, rfl, ?_⟩, two_alloc _ _ _⟩
      simp; exact fun h => e1 h.key
  · go_wp2
    go_ret
    refine ⟨⟨_, rfl, ?_⟩, two_alloc _ _ _⟩
    simp; exact fun h => e0 h.kd
/-- two lists of nodes that say the same -/
def SameP (l m : List Nx) : Prop := l.length = m.length ∧ ∀ (j : Nat) o p, l[j]? = some o → m[j]? = some p → Alk o p
theorem alloc_cell (w : World) (X : Obj) {b o : Nat} (h : b < w.heap.size) : (w.alloc X).cell? ⟨b, o, none⟩ = w.cell? ⟨b, o, none⟩ := ((Below.refl _ w).alloc (Nat.le_refl _) X).cell (p := ⟨b, o, none⟩) h
set_option maxHeartbeats 4000000 in
theorem equalFunc_any (w : World) (a b : Option Addr) (n m c1 c2 : Nat) (l r : List Nx) (hn : l.length = n) (hm : r.length = m) (hl : n ≤ 140737488351232) (h1 : Ns w a l) (h2 : Ns w b r) :
    Calls Try.prog 8 #[.slice a n c1, .slice b m c2, .func (.func 9) #[] #[]] w fun e w' => Tells e (SameP l r) ∧ Below w.heap.size w w' := by
  have HN := hideS hn
  have HM := hideS hm
  have H1 := hideS h1
  have H2 := hideS h2
  clear hn hm h1 h2
  go_enter Try.func8, Try.ntmps8
  by_cases hnm : n = m
  · subst hnm
    go_wp2_with fail
    go_loopw [17] (fun t wr => ∃ (i : Nat), t = .int .i64 i ∧ i ≤ n ∧ Below w.heap.size w wr ∧ Hid (∀ (j : Nat) o p, j < i → l[j]? = some o → r[j]? = some p → Alk o p)) (fun t _ => n - (intOf t).toNat)
    case atStart => exact ⟨0, rfl, by omega, Below.refl _ _, fun j c d hj _ => by omega⟩
    case round =>
      obtain ⟨i, rfl, hi, hbel, HF⟩ := hrel
      have HB := hideS hbel
      clear hbel
      have i0 : (0 : Int) ≤ i := by omega
      by_cases h3 : i < n
      · have h3' : (i : Int) < n := by omega
        rcases hki : l[i]? with _ | o
        · have := List.getElem?_eq_none_iff.1 hki; have := HN.out; omega
        rcases hkj : r[i]? with _ | p
        · have := List.getElem?_eq_none_iff.1 hkj; have := HM.out; omega
        rcases (H1.out.below HB.out).row with hx | ⟨g, off, rfl, hc⟩
        · rw [hx] at hki; simp at hki
        rcases (H2.out.below HB.out).row with hx | ⟨g2, off2, rfl, hc2⟩
        · rw [hx] at hkj; simp at hkj
        have no := (H1.out.below HB.out).each o (List.mem_of_getElem? hki)
        have np := (H2.out.below HB.out).each p (List.mem_of_getElem? hkj)
        have c0 := hc i _ hki 0 _ rfl
        have c1 := hc i _ hki 1 _ rfl
        have c2 := hc i _ hki 2 _ rfl
        have c3 := hc i _ hki 3 _ rfl
        have c4 := hc i _ hki 4 _ rfl
        have c5 := hc i _ hki 5 _ rfl
        have d0 := hc2 i _ hkj 0 _ rfl
        have d1 := hc2 i _ hkj 1 _ rfl
        have d2 := hc2 i _ hkj 2 _ rfl
        have d3 := hc2 i _ hkj 3 _ rfl
        have d4 := hc2 i _ hkj 4 _ rfl
        have d5 := hc2 i _ hkj 5 _ rfl
        rw [Nat.add_zero] at c0 d0
        have hg2 : g2 < wr.heap.size := World.block_lt_of_cell? wr _ d0
        have hg1 : g < wr.heap.size := World.block_lt_of_cell? wr _ c0
        have q0 := fun X => (alloc_cell wr X hg2).trans d0
        have q1 := fun X => (alloc_cell wr X hg2).trans d1
        have q2 := fun X => (alloc_cell wr X hg2).trans d2
        have q3 := fun X => (alloc_cell wr X hg2).trans d3
        have q4 := fun X => (alloc_cell wr X hg2).trans d4
        have q5 := fun X => (alloc_cell wr X hg2).trans d5
        clear d0 d1 d2 d3 d4 d5
        have HK := hideS hki
        have HJ := hideS hkj
        have NO := hideS no
        have NP := hideS np
        clear hki hkj no np hc hc2
        go_wp2_with fail
        refine (isSame_any _ o p (NO.out.below (two_alloc _ _ _)) (NP.out.below (two_alloc _ _ _))).mono ?_
        rintro e w1 ⟨⟨bb, rfl, hb⟩, hbel⟩
        have HB1 := hideS (HB.out.trans (((two_alloc _ _ _).trans (hbel.mono (by simp; omega))).mono HB.out.size))
        have HBB := hideS hb
        clear hb hbel
        cases bb
        · go_wp2
          go_ret
          refine ⟨⟨_, rfl, ?_⟩, HB1.out⟩
          have : ¬ SameP l r := fun h => by
            have := HBB.out.2 (h.2 i o p HK.out HJ.out); cases this
          simp [this]
        · go_wp2
          go_roundw
          case rel =>
            refine ⟨i + 1, by go_num, by omega, HB1.out, fun j c d hj hc hd => ?_⟩
            by_cases hji : j < i
            · exact HF.out j c d hji hc hd
            · obtain rfl : j = i := by omega
              rw [HK.out] at hc; rw [HJ.out] at hd
              cases hc; cases hd
              exact HBB.out.1 (by trivial)
          case measure => simp [intOf]; omega
      · have h3' : ¬ (i : Int) < n := by omega
        go_wp2
        go_ret
        refine ⟨⟨_, rfl, ?_⟩, HB.out⟩
        have : SameP l r := ⟨by rw [HN.out, HM.out], fun j o p ho hp => HF.out j o p (by have := (List.getElem?_eq_some_iff.1 ho).1; have := HN.out; omega) ho hp⟩
        simp [this]
  · have hnm' : ¬ (n : Int) = m := by omega
    go_wp2
    go_ret
    refine ⟨⟨_, rfl, ?_⟩, Below.refl _ _⟩
    have : ¬ SameP l r := fun h => hnm (by rw [← HN.out, ← HM.out, h.1])
    simp [this]
set_option maxHeartbeats 4000000 in
theorem same_any (w : World) (a b : Option Addr) (n m c1 c2 : Nat) (l r : List Nx) (hn : l.length = n) (hm : r.length = m) (hl : n ≤ 140737488351232) (h1 : Ns w a l) (h2 : Ns w b r) :
    Calls Try.prog 6 #[.slice a n c1, .slice b m c2] w fun e w' => Tells e (SameP l r) ∧ Below w.heap.size w w' := by
  have H := hideS (equalFunc_any w a b n m c1 c2 l r hn hm hl h1 h2)
  clear hn hm h1 h2
  go_enter Try.func6, Try.ntmps6
  go_wp2_with fail
  refine H.out.mono ?_
  rintro e w1 ⟨⟨bb, rfl, hb⟩, hbel⟩
  go_wp2
  go_ret
  exact ⟨⟨bb, rfl, hb⟩, hbel⟩
end Go.Proofs.Ytblohogcepfoeaa
