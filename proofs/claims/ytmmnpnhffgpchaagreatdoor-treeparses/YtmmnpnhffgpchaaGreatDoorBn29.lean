import Derived.Test.YtmmnpnhffgpchaaGreatDoorBn27
import Derived.Test.YtmmnpnhffgpchaaGreatDoorBn28
import Derived.Test.YtmmnpnhffgpchaaGreatDoorBn23
/-
  A grower takes a value.
-/
namespace Go.Proofs.YtmmnpnhffgpchaaGreatDoor
open Go.RowKit
set_option linter.unusedVariables false
set_option linter.unusedSimpArgs false
set_option maxRecDepth 100000
/-- what a grower's block, or value, comes to -/
structure GwO (w w' : World) (base gp : Nat) (doc : Int) (g off n cap : Nat) (L : List Tk) (v : Value) (os : List Nx) (fl : List Nd) (q' : Nat) (v' : Value) (ns : List Nx) : Prop where
  gs : Gs w' base gp doc g off n cap L q' v' (os ++ ns)
  nds : ns.map Nx.nd = fl
  tg : Tg w w' gp v
  row : v'.ownBlock = v.ownBlock ∨ ∀ r, v'.ownBlock = some r → w.heap.size ≤ r
  new : ∀ o ∈ ns, ∀ r, o.kv.ownBlock = some r → w.heap.size ≤ r
def GwE (w : World) (base gp : Nat) (doc : Int) (g off n cap : Nat) (L : List Tk) (v : Value) (os : List Nx) (key : ByteArray) (r : Rr) (e : Ending) (w' : World) : Prop := match r with
  | .ok t q' made' => e = .returned (.tuple #[]) ∧ made' = os.length + t.size ∧ ∃ v' ns, GwO w w' base gp doc g off n cap L v os ((t.withKey key).flat os.length) q' v' ns
  | .bad l er _ _ => e = wrongE doc l er ∧ Tg w w' gp v
/-- the block's contract at a depth -/
def BlkC (base gp : Nat) (doc : Int) (g off n cap : Nat) (L : List Tk) (f : Nat) (d : Int) : Prop := ∀ (w : World) (q : Nat) (v : Value) (os : List Nx) (key : ByteArray), Gs w base gp doc g off n cap L q v os → key.size ≤ 281474976710656 → (∃ t, L[q]? = some t ∧ 2 ≤ t.kd ∧ t.kd ≤ 4) →
  Calls Tryz.prog 31 #[.pointer (some ⟨gp, 0, none⟩), .string key, .int .i64 d] w (GwE w base gp doc g off n cap L v os key (blkM L f q os.length))
theorem GwO.of_below {w w1 w' : World} {base gp : Nat} {doc : Int} {g off n cap : Nat} {L : List Tk} {v : Value} {os : List Nx} {fl : List Nd} {q' : Nat} {v' : Value} {ns : List Nx} (hb : Below w.heap.size w w1) (h : GwO w1 w' base gp doc g off n cap L v os fl q' v' ns) : GwO w w' base gp doc g off n cap L v os fl q' v' ns :=
  ⟨h.gs, h.nds, (Tg.of_below gp v hb).trans h.tg (.inl rfl), by
    rcases h.row with e | e
    · exact .inl e
    · exact .inr fun r hr => Nat.le_trans hb.size (e r hr), fun o ho r hr => Nat.le_trans hb.size (h.new o ho r hr)⟩
theorem GwE.of_below {w w1 : World} {base gp : Nat} {doc : Int} {g off n cap : Nat} {L : List Tk} {v : Value} {os : List Nx} {key : ByteArray} {r : Rr} {e : Ending} {w' : World} (hb : Below w.heap.size w w1) (h : GwE w1 base gp doc g off n cap L v os key r e w') : GwE w base gp doc g off n cap L v os key r e w' := by
  cases r with
  | ok t q' made' =>
    obtain ⟨h1, h2, v', ns, h3⟩ := h
    exact ⟨h1, h2, v', ns, h3.of_below hb⟩
  | bad l er _ _ => exact ⟨h.1, (Tg.of_below gp v hb).trans h.2 (.inl rfl)⟩
/-- a node without kids, begun -/
theorem GwE.leaf {w w' : World} {base gp : Nat} {doc : Int} {g off n cap : Nat} {L : List Tk} {q' : Nat} {v v' : Value} {os : List Nx} {key tx : ByteArray} {quo : Bool} {ln : Int} (hgs : Gs w' base gp doc g off n cap L q' v' (os ++ [bareN 1 key tx quo ln])) (htg : Tg w w' gp v) (hrow : v'.ownBlock = v.ownBlock ∨ ∀ r, v'.ownBlock = some r → w.heap.size ≤ r) :
    GwE w base gp doc g off n cap L v os key (.ok (.node 1 ByteArray.empty tx quo ln []) q' (os.length + 1)) (.returned (.tuple #[])) w' := by
  refine ⟨rfl, by simp [Tr.size, sizes], v', [bareN 1 key tx quo ln], hgs, ?_, htg, hrow, ?_⟩
  · simp [Tr.withKey, Tr.flat, flats, starts, bareN, Nx.nd]
  · intro o ho r hr
    simp at ho
    subst ho
    simp [bareN] at hr
    cases hr
theorem cell_bel {w w1 : World} {m : Nat} {o : Obj} {a : Addr} {u : Value} (hb : Below ((w.alloc o).drewN m).heap.size ((w.alloc o).drewN m) w1) (h : (w.alloc o).cell? a = some u) : w1.cell? a = some u := by
  rw [← h]
  exact World.cell?_of_block (w := w.alloc o) (a := a) (hb.block a.block (World.block_lt_of_cell? (w.alloc o) a h))
theorem new_cell1 {w W w1 : World} {A : Array Value} {m : Nat} (hW : W = (w.alloc (.cells A 52)).drewN m) (hb : Below W.heap.size W w1) : (∀ (j : Nat) (u : Value), A[j]? = some u → w1.cell? ⟨w.heap.size, j, none⟩ = some u) ∧ True := by
  subst hW
  have h0 : (w.alloc (.cells A 52)).heap[w.heap.size]? = some (.cells A 52 (0, 0)) := Go.heap_alloc_new _ _
  refine ⟨fun j u hu => ?_, trivial⟩
  rw [cell_block ((hb.block _ (Array.getElem?_eq_some_iff.1 h0).1).trans h0)]; exact hu
set_option maxHeartbeats 4000000 in
theorem gvalue_leaf (w : World) (base gp : Nat) (doc : Int) (g off n cap : Nat) (L : List Tk) (q : Nat) (v : Value) (os : List Nx) (u : Tk) (key : ByteArray) (d : Int) (f : Nat) (hdf : d + (f : Int) = 17) (h : Gs w base gp doc g off n cap L q v os) (hu : u.kd = 2 ∨ u.kd = 3) (hks : key.size ≤ 281474976710656) (hB : nxtV L u q = false) :
    Calls Tryz.prog 75 #[.pointer (some ⟨gp, 0, none⟩), tokV u, .string key, .int .i64 d] w (GwE w base gp doc g off n cap L v os key (valM (blkM L f) (decide (f = 0)) L u q os.length)) := by
  unfold valM
  rw [hB, if_neg (by decide)]
  obtain ⟨oq, hblk, hoq⟩ := h.blk
  have z1 : w.cell? ⟨gp, 1, none⟩ = some (.slice (some ⟨g, oq, none⟩) (n - q) (cap - q)) := by rw [cell_block hblk]; rfl
  have z1a := cell_al z1
  have HG := hideL h
  have HU := hideL hu
  obtain ⟨m, hm⟩ : ∃ m, n - q = m := ⟨_, rfl⟩
  obtain ⟨c, hc⟩ : ∃ c, cap - q = c := ⟨_, rfl⟩
  rw [hm, hc] at z1 z1a
  have HW : Hid (∀ W, Below w.heap.size w W → Calls Tryz.prog 53 #[.pointer (some ⟨gp, 0, none⟩), tokV u, nodV 1 key ⟨#[]⟩ false, .int .i64 d] W fun e w' => (∃ z, e = .returned (.int .i64 z) ∧ GwE w base gp doc g off n cap L v os key (if decide (f = 0) = true ∨ os.length = 4096 then .bad u.line 92 q os.length else .ok (leafT u.line) q (os.length + 1)) (.returned (.tuple #[])) w') ∨ (e = wrongE doc u.line 92 ∧ GwE w base gp doc g off n cap L v os key (if decide (f = 0) = true ∨ os.length = 4096 then .bad u.line 92 q os.length else .ok (leafT u.line) q (os.length + 1)) (wrongE doc u.line 92) w')) := by
    intro W hW
    by_cases hdead : decide (f = 0) = true ∨ os.length = 4096
    · rw [if_pos hdead]
      have hdd : 16 < d ∨ os.length = 4096 := by
        rcases hdead with e | e
        · have := of_decide_eq_true e
          left; omega
        · exact .inr e
      refine (begin_bad W base gp doc g off n cap L q v os u 1 key ⟨#[]⟩ false d (h.below hW) hdd).mono ?_
      rintro e w' ⟨rfl, hb⟩
      exact .inr ⟨rfl, rfl, (Tg.of_below gp v hW).trans (Tg.of_below gp v hb) (.inl rfl)⟩
    · rw [if_neg hdead]
      have h2 : ¬ f = 0 := fun e => hdead (.inl (decide_eq_true e))
      have h3 : ¬ os.length = 4096 := fun e => hdead (.inr e)
      refine (begin_ok W base gp doc g off n cap L q v os u 1 key ⟨#[]⟩ false d (h.below hW) (by omega) (by have := h.few; omega) hks (by decide)).mono ?_
      rintro e w' ⟨rfl, v', hg, ht, hr⟩
      exact .inl ⟨_, rfl, GwE.of_below hW (GwE.leaf hg ht hr)⟩
  generalize (if decide (f = 0) = true ∨ os.length = 4096 then Rr.bad u.line 92 q os.length else .ok (leafT u.line) q (os.length + 1)) = R at *
  have HNB : Hid (∀ t, L[q]? = some t → isVal u t = false) := fun t ht => by
    unfold nxtV at hB
    rw [ht] at hB
    exact hB
  have HIV := hideL (fun (t : Tk) (W : World) => isValue_any t u W hu)
  have HB1 : Hid (∀ A : Obj, Below w.heap.size w (w.alloc A)) := fun A => (Below.refl _ w).alloc (Nat.le_refl _) _
  obtain ⟨ukd, uline, ucol, utx, uquo⟩ := u
  unfold tokV nodV at *
  dsimp only at *
  rcases ht : L[q]? with _ | t
  · have hq : n ≤ q := by have := List.getElem?_eq_none_iff.1 ht; have := h.len; omega
    have hm0 : m = 0 := by omega
    subst hm0
    clear h hm hc hblk hoq ht hq hB hu z1
    go_enter Tryz.func75, Tryz.ntmps75
    go_wp2
    go_quiet (fail)
    go_wp2_with (fail)
    refine (HW.out _ (below_drewN (HB1.out _) _)).mono ?_
    rintro e w' (⟨z, rfl, hE⟩ | ⟨he, hE⟩)
    · have HE := hideL hE
      clear hE
      go_wp2_with (fail)
      go_end0
      exact HE.out
    · have HE := hideL hE
      clear hE
      unfold wrongE at he
      subst he
      exact ⟨rfl, HE.out⟩
  · have hq : q < n := by have := (List.getElem?_eq_some_iff.1 ht).1; have := h.len; omega
    obtain ⟨y0, y1, y2, y3, y4⟩ := h.tok ht
    rw [← hoq hq] at y0 y1 y2 y3 y4
    have i2 : (0 : Int) < (m : Int) := by omega
    have m1 : 1 ≤ m := by omega
    have hp0 : 0 < m := by omega
    have dm : decide (0 < m) = true := decide_eq_true (by omega)
    have hiv := HNB.out t ht
    have hI := HIV.out t
    rw [hiv] at hI
    obtain ⟨kd, line, col, tx, quo⟩ := t
    dsimp only at *
    have y0a := cell_al y0
    have y1a := cell_al y1
    have y2a := cell_al y2
    have y3a := cell_al y3
    have y4a := cell_al y4
    have HI := hideL hI
    have HST : Hid (∀ (A : Array Value) (m : Nat) (W : World), Below (w.alloc (.cells A 52)).heap.size ((w.alloc (.cells A 52)).drewN m) W → Below w.heap.size w W) := fun A m W hW => (below_drewN (HB1.out _) m).trans (hW.mono (HB1.out _).size)
    clear h hm hc hblk hoq ht hq hB hu z1 y0 y1 y2 y3 y4 hI hiv HIV HNB
    go_enter Tryz.func75, Tryz.ntmps75
    go_wp2
    go_region_held3 (fun w' => w'.cell? ⟨gp, 1, none⟩ = some (.slice (some ⟨g, oq, none⟩) m c) ∧ w'.cell? ⟨g, oq, none⟩ = some (.int .i64 kd) ∧ w'.cell? ⟨g, oq + 1, none⟩ = some (.int .i64 line) ∧ w'.cell? ⟨g, oq + 2, none⟩ = some (.int .i64 col) ∧ w'.cell? ⟨g, oq + 3, none⟩ = some (.string tx) ∧ w'.cell? ⟨g, oq + 4, none⟩ = some (.bool quo) ∧ w'.cell? ⟨w.heap.size, 0, none⟩ = some (.int .i64 ukd) ∧ w'.cell? ⟨w.heap.size, 1, none⟩ = some (.int .i64 uline) ∧ w'.cell? ⟨w.heap.size, 2, none⟩ = some (.int .i64 ucol) ∧ w'.cell? ⟨w.heap.size, 3, none⟩ = some (.string utx) ∧ w'.cell? ⟨w.heap.size, 4, none⟩ = some (.bool uquo)) (go_keep) (first | (go_at_call 93; refine (HI.out _).mono ?_; rintro e w1 ⟨rfl, hb1⟩; have HB1' := hideL (HST.out _ 1 w1 hb1); obtain ⟨na, -⟩ := new_cell1 (m := 1) rfl hb1; have c0 := na 0 _ rfl; have c1 := na 1 _ rfl; have c2 := na 2 _ rfl; have c3 := na 3 _ rfl; have c4 := na 4 _ rfl; have e0 := cell_bel hb1 (y0a _); have e1 := cell_bel hb1 (y1a _); have e2 := cell_bel hb1 (y2a _); have e3 := cell_bel hb1 (y3a _); have e4 := cell_bel hb1 (y4a _); have e5 := cell_bel hb1 (z1a _); clear hb1 na))
    go_wp2_with (fail)
    refine (HW.out _ HB1'.out).mono ?_
    rintro e w' (⟨z, rfl, hE⟩ | ⟨he, hE⟩)
    · have HE := hideL hE
      clear hE
      go_wp2_with (fail)
      go_end0
      exact HE.out
    · have HE := hideL hE
      clear hE
      unfold wrongE at he
      subst he
      exact ⟨rfl, HE.out⟩
set_option maxHeartbeats 4000000 in
theorem gvalue_block (w : World) (base gp : Nat) (doc : Int) (g off n cap : Nat) (L : List Tk) (q : Nat) (v : Value) (os : List Nx) (u : Tk) (key : ByteArray) (d : Int) (f : Nat) (h : Gs w base gp doc g off n cap L q v os) (hu : u.kd = 2 ∨ u.kd = 3) (hks : key.size ≤ 281474976710656) (hB : nxtV L u q = true) (hC : BlkC base gp doc g off n cap L f d) :
    Calls Tryz.prog 75 #[.pointer (some ⟨gp, 0, none⟩), tokV u, .string key, .int .i64 d] w (GwE w base gp doc g off n cap L v os key (valM (blkM L f) (decide (f = 0)) L u q os.length)) := by
  unfold valM
  rw [hB, if_pos rfl]
  obtain ⟨oq, hblk, hoq⟩ := h.blk
  have z1 : w.cell? ⟨gp, 1, none⟩ = some (.slice (some ⟨g, oq, none⟩) (n - q) (cap - q)) := by rw [cell_block hblk]; rfl
  have z1a := cell_al z1
  obtain ⟨m, hm⟩ : ∃ m, n - q = m := ⟨_, rfl⟩
  obtain ⟨c, hc⟩ : ∃ c, cap - q = c := ⟨_, rfl⟩
  rw [hm, hc] at z1 z1a
  rcases ht : L[q]? with _ | t
  · unfold nxtV at hB
    rw [ht] at hB
    cases hB
  have hiv : isVal u t = true := by
    unfold nxtV at hB
    rw [ht] at hB
    exact hB
  have hkd : 2 ≤ t.kd ∧ t.kd ≤ 4 := by
    unfold isVal at hiv
    rw [Bool.and_eq_true, decide_eq_true_eq] at hiv
    exact hiv.1
  have HW : Hid (∀ W, Below w.heap.size w W → Calls Tryz.prog 31 #[.pointer (some ⟨gp, 0, none⟩), .string key, .int .i64 d] W (GwE w base gp doc g off n cap L v os key (blkM L f q os.length))) := fun W hW => (hC W q v os key (h.below hW) hks ⟨t, ht, hkd⟩).mono fun e w' hE => GwE.of_below hW hE
  have HIV := hideL (fun (W : World) => isValue_any t u W hu)
  rw [hiv] at HIV
  have HB1 : Hid (∀ A : Obj, Below w.heap.size w (w.alloc A)) := fun A => (Below.refl _ w).alloc (Nat.le_refl _) _
  generalize blkM L f q os.length = R at *
  obtain ⟨ukd, uline, ucol, utx, uquo⟩ := u
  have hq : q < n := by have := (List.getElem?_eq_some_iff.1 ht).1; have := h.len; omega
  obtain ⟨y0, y1, y2, y3, y4⟩ := h.tok ht
  rw [← hoq hq] at y0 y1 y2 y3 y4
  have i2 : (0 : Int) < (m : Int) := by omega
  have m1 : 1 ≤ m := by omega
  have hp0 : 0 < m := by omega
  have dm : decide (0 < m) = true := decide_eq_true (by omega)
  obtain ⟨kd, line, col, tx, quo⟩ := t
  unfold tokV at *
  dsimp only at *
  have y0a := cell_al y0
  have y1a := cell_al y1
  have y2a := cell_al y2
  have y3a := cell_al y3
  have y4a := cell_al y4
  have HI := HIV
  have HST : Hid (∀ (A : Array Value) (m : Nat) (W : World), Below (w.alloc (.cells A 52)).heap.size ((w.alloc (.cells A 52)).drewN m) W → Below w.heap.size w W) := fun A m W hW => (below_drewN (HB1.out _) m).trans (hW.mono (HB1.out _).size)
  clear h hm hc hblk hoq ht hq hB hu z1 y0 y1 y2 y3 y4 hiv HIV hC hkd
  go_enter Tryz.func75, Tryz.ntmps75
  go_wp2
  go_region_held3 (fun w' => w'.cell? ⟨gp, 1, none⟩ = some (.slice (some ⟨g, oq, none⟩) m c) ∧ w'.cell? ⟨g, oq, none⟩ = some (.int .i64 kd) ∧ w'.cell? ⟨g, oq + 1, none⟩ = some (.int .i64 line) ∧ w'.cell? ⟨g, oq + 2, none⟩ = some (.int .i64 col) ∧ w'.cell? ⟨g, oq + 3, none⟩ = some (.string tx) ∧ w'.cell? ⟨g, oq + 4, none⟩ = some (.bool quo) ∧ w'.cell? ⟨w.heap.size, 0, none⟩ = some (.int .i64 ukd) ∧ w'.cell? ⟨w.heap.size, 1, none⟩ = some (.int .i64 uline) ∧ w'.cell? ⟨w.heap.size, 2, none⟩ = some (.int .i64 ucol) ∧ w'.cell? ⟨w.heap.size, 3, none⟩ = some (.string utx) ∧ w'.cell? ⟨w.heap.size, 4, none⟩ = some (.bool uquo)) (go_keep) (first | (go_at_call 93; refine (HI.out _).mono ?_; rintro e w1 ⟨rfl, hb1⟩; have HB1' := hideL (HST.out _ 1 w1 hb1); obtain ⟨na, -⟩ := new_cell1 (m := 1) rfl hb1; have c0 := na 0 _ rfl; have c1 := na 1 _ rfl; have c2 := na 2 _ rfl; have c3 := na 3 _ rfl; have c4 := na 4 _ rfl; have e0 := cell_bel hb1 (y0a _); have e1 := cell_bel hb1 (y1a _); have e2 := cell_bel hb1 (y2a _); have e3 := cell_bel hb1 (y3a _); have e4 := cell_bel hb1 (y4a _); have e5 := cell_bel hb1 (z1a _); clear hb1 na))
  go_wp2_with (fail)
  refine (HW.out _ HB1'.out).mono ?_
  intro e w' hE
  cases R with
  | ok tr q' made' =>
    obtain ⟨rfl, hE2⟩ := hE
    have HE := hideL hE2
    clear hE2
    go_wp2_with (fail)
    go_end0
    exact ⟨rfl, HE.out⟩
  | bad l er q' made' =>
    obtain ⟨he, hE2⟩ := hE
    have HE := hideL hE2
    clear hE2
    unfold wrongE at he
    subst he
    exact ⟨rfl, rfl, HE.out⟩
theorem gvalue_any (w : World) (base gp : Nat) (doc : Int) (g off n cap : Nat) (L : List Tk) (q : Nat) (v : Value) (os : List Nx) (u : Tk) (key : ByteArray) (d : Int) (f : Nat) (hdf : d + (f : Int) = 17) (h : Gs w base gp doc g off n cap L q v os) (hu : u.kd = 2 ∨ u.kd = 3) (hks : key.size ≤ 281474976710656) (hC : BlkC base gp doc g off n cap L f d) :
    Calls Tryz.prog 75 #[.pointer (some ⟨gp, 0, none⟩), tokV u, .string key, .int .i64 d] w (GwE w base gp doc g off n cap L v os key (valM (blkM L f) (decide (f = 0)) L u q os.length)) := by
  cases hB : nxtV L u q with
  | true => exact gvalue_block w base gp doc g off n cap L q v os u key d f h hu hks hB hC
  | false => exact gvalue_leaf w base gp doc g off n cap L q v os u key d f hdf h hu hks hB
end Go.Proofs.YtmmnpnhffgpchaaGreatDoor

/-
  A grower takes the items of a sequence.
-/
namespace Go.Proofs.YtmmnpnhffgpchaaGreatDoor
open Go.RowKit
set_option linter.unusedVariables false
set_option linter.unusedSimpArgs false
set_option maxRecDepth 100000
/-- entries under way -/
structure Li (w wr : World) (base gp : Nat) (doc : Int) (g off n cap : Nat) (L : List Tk) (v0 : Value) (os : List Nx) (ts : List Tr) (kv : Value) (q : Nat) (v : Value) (ns : List Nx) : Prop where
  gs : Gs wr base gp doc g off n cap L q v (os ++ ns)
  nds : ns.map Nx.nd = flats ts os.length
  kids : wr.ownsRow base 3 1 kv ts.length (iV (starts ts os.length))
  far : ∀ r, kv.ownBlock = some r → w.heap.size ≤ r
  tg : Tg w wr gp v0
  row : v.ownBlock = v0.ownBlock ∨ ∀ r, v.ownBlock = some r → w.heap.size ≤ r
  new : ∀ o ∈ ns, ∀ r, o.kv.ownBlock = some r → w.heap.size ≤ r ∧ kv.ownBlock ≠ some r
theorem Li.lens {w wr : World} {base gp : Nat} {doc : Int} {g off n cap : Nat} {L : List Tk} {v0 : Value} {os : List Nx} {ts : List Tr} {kv : Value} {q : Nat} {v : Value} {ns : List Nx} (h : Li w wr base gp doc g off n cap L v0 os ts kv q v ns) : (os ++ ns).length = os.length + sizes ts := by
  have := congrArg List.length h.nds
  rw [List.length_map, flats_length] at this
  simp [this]
theorem Li.start {w : World} {base gp : Nat} {doc : Int} {g off n cap : Nat} {L : List Tk} {v0 : Value} {os : List Nx} {q : Nat} (h : Gs w base gp doc g off n cap L q v0 os) : Li w w base gp doc g off n cap L v0 os [] (.slice none 0 0) q v0 [] :=
  ⟨by rw [List.append_nil]; exact h, by simp [flats], ⟨by simp [iV, starts], .inl ⟨rfl, rfl⟩⟩, (fun r h => by cases h), ⟨rfl, rfl, rfl, Nat.le_refl _, fun k _ _ _ => rfl⟩, .inl rfl, fun o ho => by cases ho⟩
theorem Li.turn {w wr w2 : World} {base gp : Nat} {doc : Int} {g off n cap : Nat} {L : List Tk} {v0 : Value} {os : List Nx} {ts : List Tr} {kv : Value} {q q2 : Nat} {v : Value} {ns : List Nx} (h : Li w wr base gp doc g off n cap L v0 os ts kv q v ns) (hg : Gs w2 base gp doc g off n cap L q2 v (os ++ ns)) (hb : But gp wr w2) : Li w w2 base gp doc g off n cap L v0 os ts kv q2 v ns :=
  ⟨hg, h.nds, own_block h.kids (fun k hk => hb.block k (h.kids.lt k hk).2 (by have := (h.kids.lt k hk).1; have := h.gs.gplt; omega)), h.far, h.tg.trans (Tg.of_but v hb) h.row, h.row, h.new⟩
theorem Gs.keep {w w' : World} {base gp : Nat} {doc : Int} {g off n cap : Nat} {L : List Tk} {q : Nat} {v : Value} {os : List Nx} (h : Gs w base gp doc g off n cap L q v os) (hs : w.heap.size ≤ w'.heap.size) (hp : w'.heap[gp]? = w.heap[gp]?) (hg : w'.heap[g]? = w.heap[g]?) (ho : Own w' base v os) : Gs w' base gp doc g off n cap L q v os :=
  { h with
    blk := by
      obtain ⟨oq, h1, h2⟩ := h.blk
      exact ⟨oq, hp.trans h1, h2⟩
    ts := fun i t hi j u hu => by
      rw [← h.ts i t hi j u hu]
      exact World.cell?_of_block (w := w) (a := ⟨g, off + i * 5 + j, none⟩) hg
    own := ho
    bw := Nat.le_trans h.bw hs }
theorem Li.numbered {w wr w3 : World} {base gp : Nat} {doc : Int} {g off n cap : Nat} {L : List Tk} {v0 : Value} {os : List Nx} {ts : List Tr} {kv : Value} {q : Nat} {v : Value} {ns : List Nx} {o : Obj} (h : Li w wr base gp doc g off n cap L v0 os ts kv q v ns) (hO : ∀ x ∈ os, ∀ r, x.kv.ownBlock = some r → r < w.heap.size)
    (hg : (wr.alloc o).grownBy w3 kv.ownBlock) : Gs w3 base gp doc g off n cap L q v (os ++ ns) ∧ Tg w w3 gp v0 ∧ wr.heap.size ≤ w3.heap.size := by
  have hb : ∀ k, k < wr.heap.size → kv.ownBlock ≠ some k → w3.heap[k]? = wr.heap[k]? := fun k hk hne => (hg.block k (by simp; omega) (fun e => hne e.symm)).trans (Below.heap_alloc wr o k hk)
  have hkb : ∀ k, k < base → kv.ownBlock ≠ some k := fun k hk e => by have := (h.kids.lt k e).1; omega
  have hsz : wr.heap.size ≤ w3.heap.size := Nat.le_trans (by simp) hg.size
  have hbw := h.gs.bw
  refine ⟨h.gs.keep hsz (hb gp (by have := h.gs.gplt; omega) (hkb gp h.gs.gplt)) (hb g (by have := h.gs.glt; omega) (hkb g h.gs.glt)) (h.gs.own.keep (fun k hk => hb k (h.gs.own.row.lt k hk).2 (fun e => own_ne h.kids h.gs.own.row e hk)) (fun x hx k hk => hb k ((h.gs.own.kids x hx).1.lt k hk).2 (fun e => ?_))), ?_, hsz⟩
  · rcases List.mem_append.1 hx with hx | hx
    · have h1 := h.far k e
      have h2 := hO x hx k hk
      omega
    · exact (h.new x hx k hk).2 e
  · refine ⟨hg.os.trans h.tg.os, hg.tape.trans h.tg.tape, hg.output.trans h.tg.output, Nat.le_trans h.tg.size hsz, fun k hk hgk hne => ?_⟩
    exact (hb k (Nat.lt_of_lt_of_le hk h.tg.size) (fun e => by have := h.far k e; omega)).trans (h.tg.block k hk hgk hne)
theorem Li.more {w wr w3 w4 : World} {base gp : Nat} {doc : Int} {g off n cap : Nat} {L : List Tk} {v0 : Value} {os : List Nx} {ts : List Tr} {t : Tr} {kv kv' : Value} {q q' : Nat} {v v' : Value} {ns ns2 : List Nx} {o : Obj} (h : Li w wr base gp doc g off n cap L v0 os ts kv q v ns) (hO : ∀ x ∈ os, ∀ r, x.kv.ownBlock = some r → r < w.heap.size)
    (hown : w3.ownsRow base 3 1 kv' (ts.length + 1) (iV (starts ts os.length) ++ [.int .i64 ((os.length + sizes ts : Nat) : Int)])) (hg : (wr.alloc o).grownBy w3 kv.ownBlock) (hat : kv'.ownBlock = kv.ownBlock ∨ kv'.ownBlock = some (wr.alloc o).heap.size)
    (hE : GwO w3 w4 base gp doc g off n cap L v (os ++ ns) (t.flat (os.length + sizes ts)) q' v' ns2) : Li w w4 base gp doc g off n cap L v0 os (ts ++ [t]) kv' q' v' (ns ++ ns2) := by
  obtain ⟨h3, ht3, hsz3⟩ := h.numbered hO hg
  have hk' : ∀ r, kv'.ownBlock = some r → r < w3.heap.size ∧ w.heap.size ≤ r := fun r hr => ⟨(hown.lt r hr).2, by
    rcases hat with e | e
    · exact h.far r (e ▸ hr)
    · rw [e] at hr; cases hr
      have := h.tg.size
      simp; omega⟩
  refine ⟨by rw [← List.append_assoc]; exact hE.gs, ?_, ?_, fun r hr => (hk' r hr).2, ht3.trans hE.tg h.row, ?_, fun x hx r hr => ?_⟩
  · rw [List.map_append, h.nds, hE.nds, flats_snoc]
  · have h1 : w3.ownsRow base 3 1 kv' (ts ++ [t]).length (iV (starts (ts ++ [t]) os.length)) := by
      rw [starts_snoc]
      simpa [iV] using hown
    exact own_block h1 (fun k hk => hE.tg.block k (hk' k hk).1 (by have := (hown.lt k hk).1; have := h.gs.gplt; omega) (own_ne hown h3.own.row hk))
  · rcases hE.row with e | e
    · rw [e]; exact h.row
    · exact .inr fun r hr => by have := e r hr; have := ht3.size; omega
  · rcases List.mem_append.1 hx with hx | hx
    · refine ⟨(h.new x hx r hr).1, fun e => ?_⟩
      rcases hat with e2 | e2
      · exact (h.new x hx r hr).2 (e2 ▸ e)
      · rw [e2] at e; cases e
        have hx' : x ∈ os ++ ns := by simp [hx]
        have := ((h.gs.own.kids x hx').1.lt _ hr).2
        simp at this
        omega
    · have h1 := hE.new x hx r hr
      exact ⟨by have := ht3.size; omega, fun e => by have := (hk' r e).1; omega⟩
/-- what the entries come to -/
def LiE (w : World) (base gp : Nat) (doc : Int) (g off n cap : Nat) (L : List Tk) (v : Value) (os : List Nx) (r : Rl) (e : Ending) (w' : World) : Prop := match r with
  | .ok ts q' made' => made' = os.length + sizes ts ∧ ∃ kv v' ns, e = .returned kv ∧ Li w w' base gp doc g off n cap L v os ts kv q' v' ns
  | .bad l er _ _ => e = wrongE doc l er ∧ Tg w w' gp v
end Go.Proofs.YtmmnpnhffgpchaaGreatDoor

/-
  The document's block: refusals, a scalar.
-/
namespace Go.Proofs.YtmmnpnhffgpchaaGreatDoor
open Go.RowKit
set_option linter.unusedVariables false
set_option linter.unusedSimpArgs false
set_option maxRecDepth 100000
theorem blkM_deep {L : List Tk} {f q made : Nat} {t : Tk} (ht : L[q]? = some t) (h : f = 0 ∨ made = 4096) : blkM L f q made = .bad t.line 92 q made := by
  cases f with
  | zero => rw [blkM, ht]
  | succ f =>
    rw [blkM, ht]
    dsimp only
    rw [if_pos (h.resolve_left (by omega))]
theorem blkM_scalar {L : List Tk} {f q made : Nat} {t : Tk} (ht : L[q]? = some t) (h : ¬ made = 4096) (hk : t.kd = 4) : blkM L (f + 1) q made = .ok (.node 1 ByteArray.empty t.tx t.quo t.line []) (q + 1) (made + 1) := by
  rw [blkM, ht]
  dsimp only
  rw [if_neg h, if_pos hk]
/-- a scalar, in memory -/
theorem leaf_in2 {w w' : World} {rp : Nat} {a : Option Addr} {n cap : Nat} {L : List Tk} {q made : Nat} {ln : Int} {tx : ByteArray} {quo : Bool} {X : World} (hX : Rg X rp a n cap L q 0 0 made) (hb : But rp w X) (hw : w' = X.alloc (.cells #[.int .i64 1, .string ⟨#[]⟩, .string tx, .bool quo, .int .i64 ln, .slice none 0 0] 95)) : RrE w rp a n cap L (.ok (.node 1 ByteArray.empty tx quo ln []) q made) (.returned (.pointer (some ⟨X.heap.size, 0, none⟩))) w' := by
  subst hw
  have hs : (X.alloc (.cells #[.int .i64 1, .string ⟨#[]⟩, .string tx, .bool quo, .int .i64 ln, .slice none 0 0] 95)).heap.size = X.heap.size + 1 := by simp
  have hbl : Below X.heap.size X (X.alloc (.cells #[.int .i64 1, .string ⟨#[]⟩, .string tx, .bool quo, .int .i64 ln, .slice none 0 0] 95)) := (Below.refl _ _).alloc (Nat.le_refl _) _
  refine ⟨X.heap.size, rfl, ?_, hX.below hbl, hb.trans (But.of_below hbl)⟩
  rw [TrIn]
  refine ⟨⟨hb.size, by omega⟩, by decide, .slice none 0 0, [], Go.heap_alloc_new _ _, (fun r h => by cases h), ⟨by simp [ptrs], .inl ⟨rfl, rfl⟩⟩, by rw [TrsIn]⟩
set_option maxHeartbeats 16000000 in
theorem block_few (w : World) (rp : Nat) (a : Option Addr) (n cap : Nat) (L : List Tk) (t : Tk) (q made d f : Nat) (hd : d + f = 17) (h : Rg w rp a n cap L q 0 0 made) (ht : L[q]? = some t) (hc : f = 0 ∨ made = 4096 ∨ t.kd = 4) :
    Calls Tryz.prog 37 #[.pointer (some ⟨rp, 0, none⟩), .int .i64 d] w (RrE w rp a n cap L (blkM L f q made)) := by
  have hqn : q < n := by have := (List.getElem?_eq_some_iff.1 ht).1; have := h.len; omega
  have hqn' : (q : Int) < n := by omega
  have q0 : (0 : Int) ≤ q := by omega
  have hsm := h.small
  have hmd := h.made
  have hrp := h.lt
  have HXS : Hid (t.tx.size ≤ maxLen) := h.ts.str t (List.mem_of_getElem? ht)
  have HDP := hideL (fun hx => blkM_deep (f := f) (made := made) ht hx)
  have HSC : Hid (∀ g, f = g + 1 → ¬ made = 4096 → t.kd = 4 → blkM L f q made = .ok (.node 1 ByteArray.empty t.tx t.quo t.line []) (q + 1) (made + 1)) := fun g hg h1 h2 => by subst hg; exact blkM_scalar ht h1 h2
  obtain ⟨z0, z1, z2, z3, z4⟩ := h.cells
  rcases h.ts.row with hx | ⟨g, off, rfl, hcc⟩
  · rw [hx] at ht; simp at ht
  have n0 := hcc q t ht 0 _ rfl
  have n1 := hcc q t ht 1 _ rfl
  have n2 := hcc q t ht 2 _ rfl
  have n3 := hcc q t ht 3 _ rfl
  have n4 := hcc q t ht 4 _ rfl
  rw [Nat.add_zero] at n0
  have HR := hideL h
  have HCC := hideL hc
  obtain ⟨R, hR⟩ : ∃ R, blkM L f q made = R := ⟨_, rfl⟩
  rw [hR] at HDP HSC ⊢
  obtain ⟨kt, lt, ct, xt, qt⟩ := t
  dsimp only at n0 n1 n2 n3 n4 HXS HDP HSC
  clear h ht hcc hc hR
  go_enter Tryz.func37, Tryz.ntmps37
  go_wp2_with fail
  go_region_held3 (fun w' => w'.cell? ⟨rp, 0, none⟩ = some (.slice (some ⟨g, off, none⟩) n cap) ∧ w'.cell? ⟨rp, 1, none⟩ = some (.int .i64 q) ∧ w'.cell? ⟨g, off + q * 5, none⟩ = some (.int .i64 kt) ∧ w'.cell? ⟨g, off + q * 5 + 1, none⟩ = some (.int .i64 lt) ∧ w'.cell? ⟨g, off + q * 5 + 2, none⟩ = some (.int .i64 ct) ∧ w'.cell? ⟨g, off + q * 5 + 3, none⟩ = some (.string xt) ∧ w'.cell? ⟨g, off + q * 5 + 4, none⟩ = some (.bool qt)) (go_keep) (fail)
  obtain ⟨W3, hW3⟩ : ∃ W3, (w.alloc (Obj.cells #[.int .i64 kt, .int .i64 lt, .int .i64 ct, .string xt, .bool qt] 61)).drew = W3 := ⟨_, rfl⟩
  have hb3 : Below w.heap.size w W3 := by
    rw [← hW3]
    exact ((Below.refl _ _).alloc (Nat.le_refl _) _).trans ⟨rfl, rfl, rfl, Nat.le_refl _, fun _ _ => rfl⟩
  have hk3 : W3.heap[w.heap.size]? = some (.cells #[.int .i64 kt, .int .i64 lt, .int .i64 ct, .string xt, .bool qt] 61 (0, 0)) := by rw [← hW3]; exact Go.heap_alloc_new w _
  have hR3 := HR.out.below hb3
  have HR3 := hideL hR3
  have HB3 := hideL hb3
  obtain ⟨z0', z1', z2', z3', z4'⟩ := hR3.cells
  have f1 := hR3.free 1
  have f4 := hR3.free 4
  obtain ⟨b2, hb2e⟩ : ∃ b2, w.heap.size = b2 := ⟨_, rfl⟩
  rw [hb2e] at hk3 hrp
  have x0 : W3.cell? ⟨b2, 0, none⟩ = some (.int .i64 kt) := by rw [cell_block hk3]; rfl
  have x1 : W3.cell? ⟨b2, 1, none⟩ = some (.int .i64 lt) := by rw [cell_block hk3]; rfl
  have x3 : W3.cell? ⟨b2, 3, none⟩ = some (.string xt) := by rw [cell_block hk3]; rfl
  have x4 : W3.cell? ⟨b2, 4, none⟩ = some (.bool qt) := by rw [cell_block hk3]; rfl
  rw [hW3, hb2e]
  clear z0 z1 z2 z3 z4 n0 n1 n2 n3 n4 hW3 hb3 hR3
  by_cases hf : f = 0
  · have hd16 : (16 : Int) < d := by omega
    have HQ := hideL (HDP.out (.inl hf))
    go_wp2_with fail
    refine (fail_any _ rp _ n cap L q 0 _ lt 92 HR3.out).mono ?_
    rintro e w4 ⟨rfl, hR4, hB4⟩
    go_wp2
    go_ret
    rw [HQ.out]
    exact ⟨rfl, hR4, (But.of_below HB3.out).trans hB4⟩
  have hd16 : ¬ (16 : Int) < d := by omega
  by_cases hm : made = 4096
  · have hmb : ((made : Int) == 4096) = true := by rw [beq_iff_eq]; omega
    have HQ := hideL (HDP.out (.inr hm))
    clear hm
    go_wp2_with fail
    refine (fail_any _ rp _ n cap L q 0 _ lt 92 HR3.out).mono ?_
    rintro e w4 ⟨rfl, hR4, hB4⟩
    go_wp2
    go_ret
    rw [HQ.out]
    exact ⟨rfl, hR4, (But.of_below HB3.out).trans hB4⟩
  have hm' : ((made : Int) == 4096) = false := by rw [beq_eq_false_iff_ne]; omega
  have hk4 : kt = 4 := by
    rcases HCC.out with h1 | h1 | h1
    · exact absurd h1 hf
    · exact absurd h1 hm
    · exact h1
  obtain ⟨f', hf'⟩ : ∃ f', f = f' + 1 := ⟨f - 1, by omega⟩
  have HQ := hideL (HSC.out f' hf' hm hk4)
  subst hk4
  have hX4 := HR3.out.set.2.2.2 (made + 1) (by omega)
  have hX1 := hX4.set.1 (q + 1) (by omega)
  have HX1 := hideL hX1
  have HBX : Hid (But rp w ((W3.setCell ⟨rp, 4, none⟩ (.int .i64 ((made + 1 : Nat) : Int))).setCell ⟨rp, 1, none⟩ (.int .i64 ((q + 1 : Nat) : Int)))) := ((But.of_below HB3.out).trans (But.set 4 _)).trans (But.set 1 _)
  have e41 := hX4.cells.2.1
  have e4f := hX4.free 1
  have oth : ∀ j u, W3.cell? ⟨b2, j, none⟩ = some u → (W3.setCell ⟨rp, 4, none⟩ (.int .i64 ((made : Int) + 1))).cell? ⟨b2, j, none⟩ = some u ∧ ((W3.setCell ⟨rp, 4, none⟩ (.int .i64 ((made : Int) + 1))).setCell ⟨rp, 1, none⟩ (.int .i64 ((q : Int) + 1))).cell? ⟨b2, j, none⟩ = some u := fun j u hu => by
    refine ⟨?_, ?_⟩ <;> rw [← hu]
    · exact World.cell?_of_block (w := W3) (a := ⟨b2, j, none⟩) (Below.heap_setCell _ _ _ _ (by show b2 ≠ rp; omega))
    · exact World.cell?_of_block (w := W3) (a := ⟨b2, j, none⟩) (by rw [Below.heap_setCell _ _ _ _ (by show b2 ≠ rp; omega), Below.heap_setCell _ _ _ _ (by show b2 ≠ rp; omega)])
  obtain ⟨o0, p0⟩ := oth 0 _ x0
  obtain ⟨o1, p1⟩ := oth 1 _ x1
  obtain ⟨o3, p3⟩ := oth 3 _ x3
  obtain ⟨o4, p4⟩ := oth 4 _ x4
  have c41 : (W3.setCell ⟨rp, 4, none⟩ (.int .i64 ((made : Int) + 1))).cell? ⟨rp, 1, none⟩ = some (.int .i64 q) := e41
  have c4f : (W3.setCell ⟨rp, 4, none⟩ (.int .i64 ((made : Int) + 1))).frozen? ⟨rp, 1, none⟩ = false := e4f
  clear oth hX4 hX1 e41 e4f
  go_wp2
  go_ret
  have hxs : ((W3.setCell ⟨rp, 4, none⟩ (.int .i64 ((made + 1 : Nat) : Int))).setCell ⟨rp, 1, none⟩ (.int .i64 ((q + 1 : Nat) : Int))).heap.size = W3.heap.size := by simp
  have hL := leaf_in2 (tx := xt) (quo := qt) (ln := lt) HX1.out HBX.out rfl
  rw [hxs] at hL
  rw [HQ.out]
  exact hL
end Go.Proofs.YtmmnpnhffgpchaaGreatDoor

/-
  The document's block: its loop.
-/
namespace Go.Proofs.YtmmnpnhffgpchaaGreatDoor
open Go.RowKit
set_option linter.unusedVariables false
set_option linter.unusedSimpArgs false
set_option maxRecDepth 100000
theorem valM_le {B : Nat → Nat → Rr} {dead : Bool} {L : List Tk} {u : Tk} {q made : Nat} {t : Tr} {q2 m2 : Nat} (hB : ∀ t q2 m2, B q made = .ok t q2 m2 → q ≤ q2) (h : valM B dead L u q made = .ok t q2 m2) : q ≤ q2 := by
  unfold valM at h
  split at h
  · exact hB _ _ _ h
  · split at h
    · cases h
    · cases h; exact Nat.le_refl _
theorem lpM_le {V : Tk → Nat → Nat → Rr} {L : List Tk} {t0 : Tk} (hV : ∀ u q made t q2 m2, V u q made = .ok t q2 m2 → q ≤ q2) : ∀ (k : Nat) (acc : List Tr) (q made : Nat) (ts : List Tr) (q2 m2 : Nat), lpM V L t0 k acc q made = .ok ts q2 m2 → q ≤ q2
  | 0, acc, q, made, ts, q2, m2, h => by rw [lpM] at h; cases h; exact Nat.le_refl _
  | k + 1, acc, q, made, ts, q2, m2, h => by
    rw [lpM] at h
    rcases hu : L[q]? with _ | u
    · rw [hu] at h; cases h; exact Nat.le_refl _
    · rw [hu] at h
      dsimp only at h
      split at h
      · split at h
        · cases h
        · rcases hv : V u (q + 1) made with ⟨v, q', m'⟩ | ⟨l, e, q', m'⟩
          · rw [hv] at h
            have h1 := hV _ _ _ _ _ _ hv
            have h2 := lpM_le hV k _ q' m' ts q2 m2 h
            omega
          · rw [hv] at h; cases h
      · cases h; exact Nat.le_refl _
theorem blkM_le {L : List Tk} : ∀ (f q made : Nat) (t : Tr) (q2 m2 : Nat), blkM L f q made = .ok t q2 m2 → q ≤ q2
  | 0, q, made, t, q2, m2, h => by
    rw [blkM] at h
    rcases hu : L[q]? with _ | u
    · rw [hu] at h; cases h
    · rw [hu] at h; cases h
  | f + 1, q, made, t, q2, m2, h => by
    rw [blkM] at h
    rcases hu : L[q]? with _ | u
    · rw [hu] at h; cases h
    · rw [hu] at h
      dsimp only at h
      split at h
      · cases h
      · split at h
        · cases h; omega
        · rcases hl : lpM (valM (blkM L f) (decide (f = 0)) L) L u (L.length - q) [] q (made + 1) with ⟨ts, q', m'⟩ | ⟨l, e, q', m'⟩
          · rw [hl] at h
            cases h
            exact lpM_le (fun u q made t q2 m2 hv => valM_le (fun t q2 m2 hb => blkM_le f q made t q2 m2 hb) hv) _ _ _ _ _ _ _ hl
          · rw [hl] at h; cases h
theorem blkM_many {L : List Tk} {f q made : Nat} {t : Tk} (ht : L[q]? = some t) (h : ¬ made = 4096) (hk : ¬ t.kd = 4) : blkM L (f + 1) q made = (match lpM (valM (blkM L f) (decide (f = 0)) L) L t (L.length - q) [] q (made + 1) with | .ok ts q' made' => .ok (.node (if t.kd = 2 then 3 else 2) ByteArray.empty ByteArray.empty false t.line ts) q' made' | .bad l e q' made' => .bad l e q' made') := by
  rw [blkM, ht]
  dsimp only
  rw [if_neg h, if_neg hk]
  rcases lpM (valM (blkM L f) (decide (f = 0)) L) L t (L.length - q) [] q (made + 1) with ⟨ts, q', m'⟩ | ⟨l, e, q', m'⟩ <;> rfl
/-- the next token's number, as memory has it -/
def qOf (rp : Nat) (w : World) : Nat := match w.cell? ⟨rp, 1, none⟩ with | some (.int _ z) => z.toNat | _ => 0
theorem Rg.qOf {w : World} {rp : Nat} {a : Option Addr} {n cap : Nat} {L : List Tk} {q : Nat} {line err : Int} {made : Nat} (h : Rg w rp a n cap L q line err made) : qOf rp w = q := by
  unfold Go.Proofs.YtmmnpnhffgpchaaGreatDoor.qOf
  rw [h.cells.2.1]
  simp
/-- it begins: a tree without kids -/
theorem Bw.start {w W3 X4 : World} {rp : Nat} {tk : Tk} {kx : Int} (hrp : rp < w.heap.size) (hb : But rp w X4) (hk : X4.heap[w.heap.size]? = some (.cells tk.row.toArray 61 (0, 0))) (hs : X4.heap.size = w.heap.size + 1) : Bw w (X4.alloc (.cells #[.int .i64 kx, .string ⟨#[]⟩, .string ⟨#[]⟩, .bool false, .int .i64 tk.line, .slice none 0 0] 95 (0, 0))) rp tk kx (.slice none 0 0) [] [] := by
  have hbl : Below X4.heap.size X4 (X4.alloc (.cells #[.int .i64 kx, .string ⟨#[]⟩, .string ⟨#[]⟩, .bool false, .int .i64 tk.line, .slice none 0 0] 95 (0, 0))) := (Below.refl _ _).alloc (Nat.le_refl _) _
  refine ⟨hb.trans (But.of_below hbl), (hbl.block _ (by omega)).trans hk, ?_, ⟨by simp [ptrs], .inl ⟨rfl, rfl⟩⟩, (fun r h => by cases h), by rw [TrsIn]⟩
  rw [← hs]
  exact Go.heap_alloc_new _ _
end Go.Proofs.YtmmnpnhffgpchaaGreatDoor
