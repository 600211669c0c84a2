/-
  How many bytes the named files have together.
-/
import Derived.Test.YtkmohpdcchpndaaChsr
import Derived.Maps.RangeWalk
import Derived.Sort.MapsRangeIn
namespace Go.Proofs.Ytkmohpdcchpndaa
open Go.RowKit
set_option linter.unusedVariables false
set_option linter.unusedSimpArgs false
set_option maxRecDepth 100000
def usum (g : Lit → Nat) (left : Lit → Bool) : List (Lit × DataW Unit) → Nat
  | [] => 0
  | p :: r => (if left p.1 then g p.1 else 0) + usum g left r
theorem usum_far {g : Lit → Nat} {left : Lit → Bool} {kl : Lit} : ∀ {l : List (Lit × DataW Unit)}, (∀ p ∈ l, p.1 ≠ kl) → usum g (fun z => left z && !z.sameKey kl) l = usum g left l
  | [], _ => rfl
  | p :: r, h => by
    have h1 := Go.Maps.sameKey_ne (h p (by simp))
    simp only [usum, h1, Bool.not_false, Bool.and_true]
    rw [usum_far fun q hq => h q (by simp [hq])]
theorem usum_strike {g : Lit → Nat} {left : Lit → Bool} {kl : Lit} (hk : WideAt.IsKeyLit kl) (hl : left kl = true) : ∀ {l : List (Lit × DataW Unit)}, l.Pairwise (fun p q => p.1 ≠ q.1) → (∃ p ∈ l, p.1 = kl) → usum g left l = usum g (fun z => left z && !z.sameKey kl) l + g kl
  | [], _, h => by obtain ⟨p, hp, _⟩ := h; cases hp
  | p :: r, hp, h => by
    obtain ⟨h1, h2⟩ := List.pairwise_cons.1 hp
    by_cases e : p.1 = kl
    · have far := usum_far (g := g) (left := left) (kl := kl) (l := r) fun q hq e2 => h1 q hq (e.trans e2.symm)
      simp only [usum, e, hl, WideAt.sameKey_self hk, Bool.not_true, Bool.and_false, if_true]
      rw [far]
      simp
      omega
    · obtain ⟨q, hq, e2⟩ := h
      have hr : ∃ q ∈ r, q.1 = kl := by
        rcases List.mem_cons.1 hq with rfl | hq
        · exact absurd e2 e
        · exact ⟨q, hq, e2⟩
      simp only [usum, Go.Maps.sameKey_ne e, Bool.not_false, Bool.and_true]
      rw [usum_strike hk hl h2 hr]
      omega
theorem usum_none {g : Lit → Nat} {left : Lit → Bool} (h : ∀ k, left k = false) : ∀ l : List (Lit × DataW Unit), usum g left l = 0
  | [] => rfl
  | p :: r => by simp [usum, h, usum_none h r]
def entOf : DataW Unit → List (Lit × DataW Unit)
  | .map es => es
  | _ => []
theorem ranges_entries {w : World} {m r n : Nat} {D : DataW Unit} {left : Lit → Bool} {cnt : Nat} (h : w.ranges Try.prog 9 (plainElem (H := Unit) Try.prog 3) m r n D left cnt) : (entOf D).Pairwise (fun p q => p.1 ≠ q.1) ∧ ∀ kl, left kl = true → WideAt.IsKeyLit kl ∧ ∃ p ∈ entOf D, p.1 = kl := by
  obtain ⟨es, hD, hp, hk⟩ := h.owns.entries (Go.Maps.string_keyed Try.underlying9)
  obtain ⟨es0, clock, since, seen, c0, hb, F, hs, hD0, hr, hold, hl0, hl1, hl2, hsc, hsk⟩ := h
  subst hD
  refine ⟨hp, fun kl hl => ?_⟩
  obtain ⟨x, hx, e⟩ := hl2 kl hl
  have hm : (Go.WideElems.rg Try.prog 9 (plainElem (H := Unit) Try.prog 3) x) ∈ es := by
    injection hD0 with hD0
    rw [hD0, Go.mem_sorted]
    exact List.mem_map.2 ⟨x, hx, rfl⟩
  exact ⟨e ▸ hk _ hm, _, hm, e⟩
/-- the size of the file that a number names -/
def szn (es : List En) (c : Int) : Nat := match es.find? (fun e => (e.num : Int) == c) with
  | some e => e.f.now.length
  | none => 0
def szk (es : List En) (D : DataW Unit) (kl : Lit) : Nat := match D.atKey kl .nil with
  | .lit (.int .i64 c) => szn es c
  | _ => 0
theorem szn_of {es : List En} (one : ∀ e ∈ es, ∀ y ∈ es, e.num = y.num → e = y) {e : En} (he : e ∈ es) : szn es (e.num : Int) = e.f.now.length := by
  unfold szn
  cases hf : es.find? (fun y => (y.num : Int) == (e.num : Int)) with
  | none =>
    have := List.find?_eq_none.1 hf e he
    simp at this
  | some y =>
    have h1 := List.mem_of_find?_eq_some hf
    have h2 := List.find?_some hf
    simp at h2
    rw [one y h1 e he (by omega)]
/-- so many bytes are used -/
def usedOf (es : List En) (od : Option (DataW Unit)) : Nat := od.elim 0 fun D => usum (szk es D) (Go.Maps.has D) (entOf D)
theorem used_any (w : World) (base d : Nat) (x : Dr) (am : Option Am) (fo : Option (DataW Unit)) (nf made : Nat) (es : List En) (lab : Nat → Nat) (h : Dk w base d x am fo nf made es lab) (hmade : made ≤ 1000000000) (hne : x.now ≠ none) (hu : usedOf es x.now ≤ 1099511627776) :
    Ans 45 #[.pointer (some ⟨d, 0, none⟩)] w fun v w' => v = usedOf es x.now ∧ Below w.heap.size w w' := by
  have hblk := h.dir.blk
  have hnow := h.dir.now
  rcases hnow with ⟨hnv, hnn⟩ | ⟨m, D, hnv, hnn, hbm, hown, htidy⟩
  · exact absurd hnn hne
  · rw [hnv] at hblk
    have h5 : w.cell? ⟨d, 5, none⟩ = some (.map (some m)) := by rw [cell_block hblk]; rfl
    have hml := hown.lt
    obtain ⟨U, hU⟩ : ∃ U, usedOf es x.now = U := ⟨_, rfl⟩
    have hU' : usum (szk es D) (Go.Maps.has D) (entOf D) = U := by rw [← hU, hnn]; rfl
    rw [hU] at hu ⊢
    obtain ⟨mf, hmf⟩ := h.fm.shape
    have HK : Hid (∀ wr (nm : ByteArray) (c : Int), Below w.heap.size w wr → (∀ zd, D.atKey (keyOf nm) zd = .lit (.int .i64 c)) → ∃ fb ao L cap, wr.cell? ⟨d, 6, none⟩ = some (.map mf) ∧ (Instr.lookup 67 (.map mf) (.int .i64 c) false).run Try.prog wr = .ok (.pointer (some ⟨fb, 0, none⟩)) wr ∧ wr.cell? ⟨fb, 2, none⟩ = some (.slice ao L cap) ∧ szk es D (keyOf nm) = L) := by
      intro wr nm c hb hat
      obtain ⟨e, he, hc⟩ := h.named nm c ⟨D, hnn, hat⟩
      subst hc
      have k1 := h.below hb
      obtain ⟨ha, hle⟩ := k1.at_ e he
      obtain ⟨ao, cap, hnv, _⟩ := (k1.fil e he).now.form
      have hbf := (k1.fil e he).blk
      rw [hnv] at hbf
      have hfm := k1.fm
      rw [hmf] at hfm
      have hbd := k1.dir.blk
      rw [hmf] at hbd
      refine ⟨e.b, ao, e.f.now.length, cap, by rw [cell_block hbd]; rfl, fm_look hfm e.num e.b (by omega) ha, by rw [cell_block hbf]; rfl, ?_⟩
      unfold szk
      rw [hat]
      exact szn_of h.one he
    clear hblk h hmf hU hnn
    go_enter Try.func45, Try.ntmps45
    go_wp2_with (first | (at_range; refine wpList_range_own _ rfl _ 62 rfl 9 3 (Go.Maps.string_keyed Try.underlying9) Try.underlying62 _ m x.bn D rfl hown ?_; intro w0 hrg0 hg0 hs0) | go_in)
    go_frame
    go_loopw [3] (fun t wr => ∃ (left : Lit → Bool) (cnt v : Nat), wr.ranges Try.prog 9 (plainElem (H := Unit) Try.prog 3) m w.heap.size x.bn D left cnt ∧ t = .int .i64 v ∧ v + usum (szk es D) left (entOf D) = U ∧ Below w.heap.size w wr) (fun _ wr => wr.rangeLeft m w.heap.size)
    case atStart => exact ⟨_, _, 0, hrg0, rfl, by rw [hU']; omega, (Below.refl _ _).grown hg0 (Nat.le_refl _) (fun j hj => by cases hj)⟩
    case round =>
      obtain ⟨left, cnt, v, hrg, rfl, hv, hb⟩ := hrel
      go_wp2_with (first | (at_next; refine wpList_next_ranges _ rfl _ rfl 9 (Go.Maps.string_keyed Try.underlying9) (plainElem (H := Unit) Try.prog 3) Value.string (Value.int .i64) (fun key kl h => Maps.keyOf_string_inv Try.underlying9 h) (fun v y hv => by obtain ⟨c, rfl, _⟩ := plainElem_int_inv Try.underlying3 hv; exact ⟨c, rfl⟩) m w.heap.size x.bn _ _ _ rfl hrg ?_ ?_) | go_in)
      · intro hc0 hl0
        go_wp2
        go_ret
        rw [usum_none hl0] at hv
        exact ⟨v, rfl, by omega, hb⟩
      · intro nm c kl y ps w1 cnt1 hkey hlk hRv hat hrg1 hlt hg1 hs1 hen
        have ekl : kl = keyOf nm := by
          simp [Go.keyOf, Try.underlying9, Go.mapKey] at hkey
          exact hkey.2.symm
        subst ekl
        have hy : y = .lit (.int .i64 c) := by
          obtain ⟨c', hv', hy', _⟩ := plainElem_int_inv Try.underlying3 hRv
          cases hv'
          cases hy'
          rfl
        have hb1 : Below w.heap.size w w1 := hb.grown hg1 hb.size (fun j hj => by cases hj; exact Nat.le_refl _)
        obtain ⟨fb, ao, L, cap, q6, ql, q2, qs⟩ := HK.out w1 nm c hb1 (fun zd => (hat zd).trans hy)
        obtain ⟨hpw, hin⟩ := ranges_entries hrg
        obtain ⟨hkl, hmem⟩ := hin _ hlk
        have hst := usum_strike (g := szk es D) hkl hlk hpw hmem
        rw [qs] at hst
        have hvL : v + L ≤ 1099511627776 := by omega
        clear HK hat
        go_wp2_with fail
        go_roundw
        case rel => exact ⟨_, cnt1, v + L, hrg1, by simp, by omega, hb1⟩
        case measure => rw [hrg1.left_eq, hrg.left_eq]; exact hlt
end Go.Proofs.Ytkmohpdcchpndaa
