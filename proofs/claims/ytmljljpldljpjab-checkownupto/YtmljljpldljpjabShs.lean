/- The shelf's contracts lie in Shf. -/
import Derived.Test.YtmljljpldljpjabShf
