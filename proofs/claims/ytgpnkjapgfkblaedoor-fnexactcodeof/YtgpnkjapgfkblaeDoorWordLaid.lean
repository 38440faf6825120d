/-
  What the row's list gives of the table of words: its cells hold the words.
-/
import Derived.Test.YtgpnkjapgfkblaeDoorWordWalks
import Derived.OpenShut
import Derived.ChangeArms
import Derived.FnData
import Derived.MakeChecks
import Derived.Lib.LaidTab
namespace Go.Proofs.YtgpnkjapgfkblaeDoor

/-- An array of texts that reads as a list of texts holds these, cell for cell. -/
theorem cells_of_texts {H : Type} {enc : TypeId × Value → H} {w : World} {base fuel : Nat} {sp : Nat → Bool} {held : Bool} {cs : List Value} {ls : List (List UInt8)} {p : List MemPlace}
    (h : DataW.trod enc Tryd.prog w base sp held fuel 33 cs = some (.agg (ls.map fun l => .lit (.string l)), p)) (k : Nat) (hk : k < 22) :
    cs[k]? = some (.string ⟨(ls.getD k []).toArray⟩) := by
  have c9 : Tryd.prog.cellsOf 9 = 1 := by kernel_rfl
  have cT : Tryd.prog.cellsOf 33 = 22 := by kernel_rfl
  obtain ⟨xs, m, _, ex, hlen, hl, hel⟩ := DataW.trod_array Tryd.underlying33 h
  have e := (DataW.agg.inj (Prod.mk.inj ex).1)
  have hx := hel k hk
  rw [c9] at hx
  have hxk : xs[k]? = some (xs[k]'(by omega)) := List.getElem?_eq_getElem (by omega)
  rw [hxk] at hx
  obtain ⟨s, hc, hs, _⟩ := DataW.trod_string Tryd.underlying9 hx
  have h1 : cs[k]? = some (.string s) := by
    have := congrArg (·[0]?) hc
    simpa [List.getElem?_take, List.getElem?_drop] using this
  have h2 : (ls.map fun l => (DataW.lit (.string l) : DataW H))[k]? = (xs.map (·.1))[k]? := by rw [e]
  rw [List.getElem?_map, List.getElem?_map, hxk, Option.map_some, hs] at h2
  obtain ⟨l, hl', he⟩ := Option.map_eq_some_iff.1 h2
  have he' : l = s.data.toList := by simpa using he
  rw [h1, List.getD_eq_getElem?_getD, hl', Option.getD_some, he']

theorem word_at (k : Nat) (hk : k < 22) : (⟨(wordsL.getD k []).toArray⟩ : ByteArray) = wordB (k : Int) := by
  rw [wordB, if_pos (by omega), Int.toNat_natCast]

theorem wordsAt_of_laid {W : World} {rest : List (String × DataW Unit)} (h : laidMet Tryd.prog (("loop.example/g00701/impl.codeWords", Rows.laid_loop_example_g00701_impl_codeWords) :: rest) W) : WordsAt W := by
  obtain ⟨ps, ⟨g, t, cs, fuel, p, q, hg, ht, hv, hd, _, _⟩, _, _⟩ := h
  obtain rfl := Option.some.inj ((show Tryd.prog.globalNamed "loop.example/g00701/impl.codeWords" = some 0 by kernel_rfl).symm.trans hg)
  obtain rfl := Option.some.inj ((show (Tryd.prog.globals[0]?).map (·.type) = some 33 by kernel_rfl).symm.trans ht)
  intro k hk
  have hd' : DataW.trod _ Tryd.prog W _ _ _ fuel 33 cs.toList = some (.agg (wordsL.map fun l => .lit (.string l)), p) := hd
  rw [World.var?_cell hg hv k, ← word_at k hk, ← cells_of_texts hd' k hk, Array.getElem?_toList]
end Go.Proofs.YtgpnkjapgfkblaeDoor
